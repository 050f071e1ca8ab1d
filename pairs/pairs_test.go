package pairs_test

import (
	"math"
	"math/rand"
	"slices"
	"testing"

	"bridleway/api"
	"bridleway/csr"
	. "bridleway/pairs"
)

func link(a, b, cost int, n uint64) api.Link { return api.Link{A: a, B: b, Cost: cost, N: n} }

func random(r *rand.Rand) []api.Link {
	var l []api.Link
	for a := range 5 {
		for b := range 5 {
			if r.Intn(3) == 0 {
				l = append(l, link(a, b, r.Intn(4), uint64(1+r.Intn(3))))
			}
		}
	}
	return l
}

func find(l []api.Link, a, b int) (api.Link, bool) {
	for _, x := range l {
		if x.A == a && x.B == b {
			return x, true
		}
	}
	return api.Link{}, false
}

func TestGood(t *testing.T) {
	for _, l := range [][]api.Link{nil, {link(0, 0, 0, 1)}, {link(0, 5, math.MaxInt, api.Most), link(1, 0, 0, 1), link(9999, 9999, 0, 1)}} {
		if !Good(l) {
			t.Error(l)
		}
	}
	for _, l := range [][]api.Link{{link(-1, 0, 0, 1)}, {link(0, -1, 0, 1)}, {link(10000, 0, 0, 1)}, {link(0, 10000, 0, 1)}, {link(0, 0, -1, 1)}, {link(0, 0, 0, 0)}, {link(0, 0, 0, api.Most+1)}, {link(0, 1, 0, 1), link(0, 1, 1, 1)}, {link(0, 1, 0, 1), link(0, 0, 0, 1)}, {link(1, 0, 0, 1), link(0, 1, 0, 1)}} {
		if Good(l) {
			t.Error(l)
		}
	}
}

func TestOfTwo(t *testing.T) {
	r := rand.New(rand.NewSource(22))
	for range 500 {
		a, b := random(r), random(r)
		wasA, wasB := slices.Clone(a), slices.Clone(b)
		both := Both(a, b)
		turned := Turn(a)
		if !Good(both) || !Good(turned) || !Same(Turn(turned), a) || !Same(Both(b, a), both) || len(turned) != len(a) {
			t.Fatal(a, b)
		}
		for x := range 5 {
			for y := range 5 {
				p, inA := find(a, x, y)
				q, inB := find(b, x, y)
				got, ok := find(both, x, y)
				if ok != (inA && inB) || ok && got != link(x, y, p.Cost+q.Cost, p.N*q.N) {
					t.Fatal(a, b, both)
				}
				back, ok := find(turned, y, x)
				if ok != inA || ok && back != link(y, x, p.Cost, p.N) {
					t.Fatal(a, turned)
				}
			}
		}
		checkOne(t, r, a)
		if !Same(a, wasA) || !Same(b, wasB) {
			t.Fatal("changed")
		}
	}
}

func checkOne(t *testing.T, r *rand.Rand, l []api.Link) {
	t.Helper()
	pick := func() []int {
		return slices.DeleteFunc([]int{0, 1, 2, 3, 4, 7}, func(int) bool { return r.Intn(2) == 0 })
	}
	from, to := pick(), pick()
	var within []api.Link
	var loops []int
	var sum uint64
	inA, inB := map[int]int{}, map[int]int{}
	for _, x := range l {
		if slices.Contains(from, x.A) && slices.Contains(to, x.B) {
			within = append(within, x)
		}
		if x.A == x.B {
			loops = append(loops, x.A)
		}
		inA[x.A]++
		inB[x.B]++
		sum += x.N
	}
	if !Same(Within(l, from, to), within) || !slices.Equal(Loops(l), loops) || Sum(l) != sum {
		t.Fatal(l)
	}
	for n := -1; n <= 6; n++ {
		if len(From(l, n)) != inA[n] || slices.ContainsFunc(From(l, n), func(x api.Link) bool { return x.A != n }) {
			t.Fatal(l, n)
		}
		if slices.Contains(Ends(l, false), n) != (inA[n] > 0) || slices.Contains(Ends(l, true), n) != (inB[n] > 0) {
			t.Fatal(l, n)
		}
	}
	if !slices.IsSorted(Ends(l, true)) || len(Ends(l, false)) != len(inA) || len(Ends(l, true)) != len(inB) {
		t.Fatal(l)
	}
}

func TestEdges(t *testing.T) {
	r := rand.New(rand.NewSource(23))
	for range 300 {
		var g api.Graph
		for range 4 {
			g.Nodes = append(g.Nodes, api.Node{Label: "n"})
		}
		for range r.Intn(20) {
			g.Edges = append(g.Edges, api.Edge{From: r.Intn(4), To: r.Intn(4), Label: []string{"a", "b"}[r.Intn(2)], Weight: r.Intn(9)})
		}
		c, _ := csr.New(g)
		for _, s := range []api.Sym{{Label: "a"}, {Label: "a", Back: true}, {Label: "c"}} {
			var want []api.Link
			for x := range 4 {
				for y := range 4 {
					least := -1
					for _, e := range g.Edges {
						from, to := e.From, e.To
						if s.Back {
							from, to = to, from
						}
						if e.Label == s.Label && from == x && to == y && (least < 0 || e.Weight < least) {
							least = e.Weight
						}
					}
					if least >= 0 {
						want = append(want, link(x, y, least, 1))
					}
				}
			}
			if got := Edges(c, s); !Same(got, want) || !Good(got) {
				t.Fatal(s, got, want)
			}
		}
		if !Same(Turn(Edges(c, api.Sym{Label: "a"})), Edges(c, api.Sym{Label: "a", Back: true})) {
			t.Fatal("turned")
		}
	}
	if len(Edges(nil, api.Sym{Label: "a"})) != 0 {
		t.Error("nil")
	}
}

func TestEdgesOfCounts(t *testing.T) {
	most := []api.Link{link(0, 1, 2, api.Most)}
	if got := Both(most, []api.Link{link(0, 1, 3, 2)}); !Same(got, []api.Link{link(0, 1, 5, api.Most)}) {
		t.Error(got)
	}
	if Sum([]api.Link{link(0, 0, 0, api.Most), link(0, 1, 0, 1)}) != api.Most || Sum(nil) != 0 {
		t.Error("sum")
	}
	if Same(most, nil) || Same(most, []api.Link{link(0, 1, 3, api.Most)}) || !Same(nil, []api.Link{}) {
		t.Error("same")
	}
	// Of others what is told is open, but they end.
	bad := []api.Link{link(5, -1, -1, 0), link(-9, math.MaxInt, 1, math.MaxUint64), link(5, -1, 0, 1)}
	Turn(bad)
	Both(bad, bad)
	Within(bad, []int{5, -1}, []int{9, 1})
	From(bad, 5)
	Ends(bad, true)
	Loops(bad)
	Sum(bad)
}
