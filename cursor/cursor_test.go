package cursor_test

import (
	"math"
	"math/rand"
	"slices"
	"strings"
	"testing"

	"bridleway/api"
	. "bridleway/cursor"
	"bridleway/each"
	"bridleway/tree"
	"bridleway/varint"
)

func random(r *rand.Rand) *tree.Tree {
	n := 1 + r.Intn(4)
	f := api.Forest{Links: make([][]int, n), Loops: make([][]int, n)}
	p := api.Parts{Nodes: make([][]api.Link, n), Links: make([][]api.Link, n)}
	for v := range n {
		f.Vars = append(f.Vars, string(rune('x'+v)))
		f.Order = append(f.Order, v)
		f.Parent = append(f.Parent, r.Intn(v+1)-1)
		for a := range 4 {
			if r.Intn(4) > 0 {
				p.Nodes[v] = append(p.Nodes[v], api.Link{A: a, B: a, N: uint64(1 + r.Intn(2))})
			}
			for b := range 4 {
				if f.Parent[v] >= 0 && r.Intn(3) > 0 {
					p.Links[v] = append(p.Links[v], api.Link{A: a, B: b, N: uint64(1 + r.Intn(2))})
				}
			}
		}
	}
	t, _ := tree.New(f, p)
	return t
}

func equal(a, b api.Mark) bool {
	return Same(a, b) && len(a.Items) == len(b.Items)
}

func TestStart(t *testing.T) {
	if s, code := Put(Start()); s != "\x01\x00\x00\x00\x00" || code != api.OK {
		t.Errorf("%x", s)
	}
}

func TestPutAndGet(t *testing.T) {
	twelve := slices.Repeat([]int{9999}, 12)
	good := []api.Mark{{}, {Told: 1 << 53}, {Told: 5, Over: true}, {Nodes: []int{0}}, {Told: 300, Nodes: twelve, Rest: math.MaxUint64}}
	for _, m := range good {
		s, code := Put(m)
		got, getCode := Get(s)
		if code != api.OK || getCode != api.OK || !equal(got, m) || !Good(m) {
			t.Error(m, got, code)
		}
		for i := range s {
			if m, code := Get(s[:i]); code != api.ErrToken || !equal(m, api.Mark{}) {
				t.Error(m, code)
			}
		}
		if _, code := Get(s + "\x00"); code != api.ErrToken {
			t.Error(code)
		}
	}
	bad := []api.Mark{{Told: -1}, {Told: 1<<53 + 1}, {Items: make([]api.Item, 1)}, {Rest: 1}, {Over: true, Nodes: []int{1}}, {Over: true, Rest: 1}, {Nodes: []int{-1}}, {Nodes: []int{10000}}, {Nodes: make([]int, 13)}}
	for _, m := range bad {
		if s, code := Put(m); s != "" || code != api.ErrArg || Good(m) || Fits(nil, m) {
			t.Error(m, code)
		}
	}
	for _, l := range [][]uint64{{}, {1}, {2, 0, 0, 0, 0}, {0, 0, 0, 0, 0}, {1, 0, 2, 0, 0}, {1, 0, 0, 0, 1}, {1, 0, 1, 0, 1}, {1, 0, 1, 1, 5, 0}, {1, 1<<53 + 1, 0, 0, 0}, {1, math.MaxUint64, 0, 0, 0}, {1, 0, 0, 1, 0}, {1, 0, 0, 1, 10000, 0}, {1, 0, 0, 1, math.MaxUint64, 0}, {1, 0, 0, math.MaxUint64, 0}, {1, 0, 0, 13, 0, 0, 0, 0, 0, 0, 0, 0, 0, 0, 0, 0, 0, 0}} {
		if m, code := Get(varint.Put(l...)); code != api.ErrToken || !equal(m, api.Mark{}) {
			t.Error(l, m, code)
		}
	}
	for _, s := range []string{"\x01\x00\x00\x00\x80\x00", "\x80", strings.Repeat("\x00", api.MaxToken+1), strings.Repeat("\x01", api.MaxToken)} {
		if m, code := Get(s); code != api.ErrToken || !equal(m, api.Mark{}) {
			t.Error(code)
		}
	}
}

func TestAnyBytes(t *testing.T) {
	r := rand.New(rand.NewSource(36))
	got := 0
	for range 100000 {
		b := make([]byte, r.Intn(9))
		for i := range b {
			b[i] = byte(r.Intn(4))
			if r.Intn(9) == 0 {
				b[i] = byte(r.Intn(256))
			}
		}
		m, code := Get(string(b))
		if code != api.OK {
			continue
		}
		got++
		if s, code := Put(m); s != string(b) || code != api.OK {
			t.Fatalf("%x %x", b, s)
		}
	}
	if got == 0 {
		t.Error("none")
	}
}

func TestNext(t *testing.T) {
	r := rand.New(rand.NewSource(37))
	for range 300 {
		tr := random(r)
		m := Start()
		told := 0
		for _, want := range each.All(tr, math.MaxInt) {
			for rest := range want.N {
				row, next, ok := Next(tr, m)
				told++
				expect := api.Mark{Told: told, Nodes: want.Nodes, Rest: rest}
				if !ok || !slices.Equal(row.Nodes, want.Nodes) || row.N != want.N || !equal(next, expect) || !Fits(tr, next) {
					t.Fatal(row, next, expect)
				}
				m = next
			}
		}
		for range 2 {
			row, next, ok := Next(tr, m)
			if ok || row.Nodes != nil || row.N != 0 || !equal(next, api.Mark{Told: told, Over: true}) || !Fits(tr, next) {
				t.Fatal(row, next)
			}
			m = next
		}
	}
}

func TestFits(t *testing.T) {
	f := api.Forest{Vars: []string{"x"}, Order: []int{0}, Parent: []int{-1}, Links: make([][]int, 1), Loops: make([][]int, 1)}
	tr, _ := tree.New(f, api.Parts{Nodes: [][]api.Link{{{A: 3, B: 3, N: 2}, {A: 4, B: 4, N: 1}}}, Links: make([][]api.Link, 1)})
	for i, x := range []struct {
		m    api.Mark
		fits bool
	}{
		{api.Mark{}, true}, {api.Mark{Over: true, Told: 9}, true}, {api.Mark{Nodes: []int{3}, Rest: 1}, true}, {api.Mark{Nodes: []int{3}, Rest: 2}, false}, {api.Mark{Nodes: []int{4}, Rest: 1}, false}, {api.Mark{Nodes: []int{5}}, false}, {api.Mark{Nodes: []int{3, 3}}, false}, {api.Mark{Nodes: []int{3}, Items: make([]api.Item, 1)}, false}, {api.Mark{Nodes: []int{3}, Rest: math.MaxUint64}, false},
	} {
		if Fits(tr, x.m) != x.fits {
			t.Error(i)
		}
		if row, next, ok := Next(tr, x.m); !x.fits && (ok || row.Nodes != nil || !equal(next, api.Mark{})) {
			t.Error(i, next)
		}
	}
	if _, next, _ := Next(tr, api.Mark{Told: 1 << 53}); next.Told != 1<<53 {
		t.Error(next)
	}
	if !Fits(nil, Start()) || Fits(nil, api.Mark{Nodes: []int{0}}) {
		t.Error("nil")
	}
	if row, next, ok := Next(nil, Start()); ok || row.N != 0 || !equal(next, api.Mark{Over: true}) {
		t.Error(next)
	}
}

func TestSame(t *testing.T) {
	m := api.Mark{Told: 1, Nodes: []int{2}, Rest: 3}
	for _, other := range []api.Mark{{Told: 2, Nodes: []int{2}, Rest: 3}, {Told: 1, Nodes: []int{3}, Rest: 3}, {Told: 1, Nodes: []int{2}, Rest: 4}, {Told: 1, Nodes: []int{2}, Rest: 3, Over: true}} {
		if Same(m, other) {
			t.Error(other)
		}
	}
	if !Same(m, api.Mark{Told: 1, Nodes: []int{2}, Rest: 3, Items: make([]api.Item, 2)}) {
		t.Error("items")
	}
}
