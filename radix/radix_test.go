package radix_test

import (
	"math"
	"math/rand"
	"slices"
	"sort"
	"testing"

	"bridleway/api"
	. "bridleway/radix"
)

func keysFor(r *rand.Rand) []uint64 {
	keys := make([]uint64, r.Intn(60))
	shift := r.Intn(64)
	for i := range keys {
		keys[i] = r.Uint64() >> shift
		if r.Intn(2) == 0 && i > 0 {
			keys[i] = keys[r.Intn(i)]
		}
	}
	return keys
}

func TestOrder(t *testing.T) {
	if !slices.Equal(Order(3, 1, 3), []int{1, 0, 2}) || len(Order()) != 0 || !slices.Equal(Order(0, 0), []int{0, 1}) {
		t.Error("order")
	}
	r := rand.New(rand.NewSource(4))
	for range 500 {
		keys := keysFor(r)
		was := slices.Clone(keys)
		want := make([]int, len(keys))
		for i := range want {
			want[i] = i
		}
		sort.SliceStable(want, func(i, j int) bool { return keys[want[i]] < keys[want[j]] })
		if got := Order(keys...); !slices.Equal(got, want) || !slices.Equal(keys, was) {
			t.Fatal(keys, got)
		}
	}
	if !slices.Equal(Order(math.MaxUint64, 1<<63, 0), []int{2, 1, 0}) {
		t.Error("great")
	}
}

func TestPairsAndSort(t *testing.T) {
	l := []api.Pair{{A: 2, B: 1}, {A: 1, B: math.MaxUint32}, {A: 2, B: 0}, {A: 2, B: 1}, {A: 1, B: 5}}
	was := slices.Clone(l)
	if got := Pairs(l); !slices.Equal(got, []int{4, 1, 2, 0, 3}) {
		t.Error(got)
	}
	want := []api.Pair{{A: 1, B: 5}, {A: 1, B: math.MaxUint32}, {A: 2, B: 0}, {A: 2, B: 1}}
	if got := Sort(l); !slices.Equal(got, want) || !slices.Equal(l, was) {
		t.Error(got)
	}
	if len(Pairs(nil)) != 0 || len(Sort(nil)) != 0 {
		t.Error("none")
	}
}

func TestSums(t *testing.T) {
	if l, code := Sums(); code != api.OK || !slices.Equal(l, []int{0}) {
		t.Error(l, code)
	}
	if l, code := Sums(2, 0, 5); code != api.OK || !slices.Equal(l, []int{0, 2, 2, 7}) {
		t.Error(l, code)
	}
	if l, code := Sums(1<<53-1, 1); code != api.OK || l[2] != 1<<53 {
		t.Error(l, code)
	}
	for _, bad := range [][]int{{-1}, {5, math.MinInt}, {1<<53 + 1}, {1 << 53, 1}, {math.MaxInt, math.MaxInt}} {
		if l, code := Sums(bad...); l != nil || code != api.ErrFull {
			t.Error(bad, l, code)
		}
	}
}

func TestGroups(t *testing.T) {
	if !slices.Equal(Groups(5, 5, 7), []int{0, 2, 3}) || !slices.Equal(Groups(), []int{0}) || !slices.Equal(Groups(1), []int{0, 1}) {
		t.Error("groups")
	}
	if !slices.Equal(Groups(7, 5, 5, 7), []int{0, 1, 3, 4}) {
		t.Error("others")
	}
}

func TestListsThatRise(t *testing.T) {
	if !Rising(nil) || !Rising([]uint64{5}) || !Rising([]uint64{0, 1, math.MaxUint64}) || Rising([]uint64{1, 1}) || Rising([]uint64{1, 3, 2}) {
		t.Error("rising")
	}
	r := rand.New(rand.NewSource(5))
	for range 500 {
		a, b := rise(r), rise(r)
		var merged, common []uint64
		for u := range uint64(40) {
			inA, inB := slices.Contains(a, u), slices.Contains(b, u)
			if inA || inB {
				merged = append(merged, u)
			}
			if inA && inB {
				common = append(common, u)
			}
			lower := 0
			for _, x := range a {
				if x < u {
					lower++
				}
			}
			if Lower(a, u) != lower {
				t.Fatal(a, u)
			}
		}
		if !slices.Equal(Merge(a, b), merged) || !slices.Equal(Common(a, b), common) {
			t.Fatal(a, b)
		}
	}
	if Lower(nil, 5) != 0 || Lower([]uint64{1}, math.MaxUint64) != 1 {
		t.Error("lower")
	}
}

func TestListsThatDoNotRiseEnd(t *testing.T) {
	l := []uint64{5, 1, 1, 9, 0}
	Merge(l, l)
	Merge(l, []uint64{9, 5})
	Common(l, []uint64{0, 9})
	Lower(l, 1)
}

func TestAnswersAreNewMemory(t *testing.T) {
	a := make([]uint64, 1, 10)
	a[0] = 3
	got := Merge(a, nil)
	got[0] = 7
	_ = append(got, 9)
	if a[0] != 3 || a[:2][1] != 0 {
		t.Error("shared")
	}
}

func rise(r *rand.Rand) []uint64 {
	var l []uint64
	for u := range uint64(40) {
		if r.Intn(3) == 0 {
			l = append(l, u)
		}
	}
	return l
}
