package short_test

import (
	"math"
	"math/rand"
	"slices"
	"strings"
	"testing"

	"bridleway/api"
	"bridleway/auto"
	"bridleway/csr"
	"bridleway/dfa"
	"bridleway/pairs"
	"bridleway/product"
	"bridleway/regex"
	. "bridleway/short"
)

func of(t *testing.T, s string) api.Dfa {
	t.Helper()
	r, _, code := regex.Parse(s)
	d, made := auto.Of(r, api.MaxStates)
	if code != api.OK || made != api.OK {
		t.Fatal(s, code, made)
	}
	return d
}

func random(r *rand.Rand, nodes, edges int) api.Graph {
	var g api.Graph
	for range nodes {
		g.Nodes = append(g.Nodes, api.Node{Label: "n"})
	}
	for range edges {
		g.Edges = append(g.Edges, api.Edge{From: r.Intn(nodes), To: r.Intn(nodes), Label: []string{"a", "b"}[r.Intn(2)]})
	}
	return g
}

type spots struct {
	g  api.Graph
	c  *csr.Csr
	d  api.Dfa
	to int
}

// next is the hops from a spot, as the graph says.
func (x spots) next(s api.Spot) []api.Way {
	var l []api.Way
	for e := range x.g.Edges {
		for _, back := range []bool{false, true} {
			h := api.Hop{Edge: e, Back: back}
			from, to, _ := product.Ends(x.c, h)
			if state, ok := dfa.Next(x.d, s.State, api.Sym{Label: x.g.Edges[e].Label, Back: back}); ok && from == s.Node {
				l = append(l, api.Way{Hop: h, To: api.Spot{Node: to, State: state, Left: s.Left - 1}})
			}
		}
	}
	return l
}

// count is how many walks of just so many hops lead from a spot to the end.
func (x spots) count(s api.Spot) uint64 {
	if s.Left == 0 {
		if s.Node == x.to && x.d.Accept[s.State] {
			return 1
		}
		return 0
	}
	var n uint64
	for _, w := range x.next(s) {
		n += x.count(w.To)
	}
	return n
}

// least is the fewest hops from a cell to the end, of at most so many; and how many walks have them.
func (x spots) least(node, state, most int) (int, uint64) {
	for left := range most + 1 {
		if n := x.count(api.Spot{Node: node, State: state, Left: left}); n > 0 {
			return left, n
		}
	}
	return -1, 0
}

func TestShortestWalks(t *testing.T) {
	r := rand.New(rand.NewSource(25))
	texts := []string{"a", "^a", "()", "a*", "a.b", "(a|b)*", "a.(b|^a)*", "a?.b*", "c"}
	for round := range 90 {
		g := random(r, 1+r.Intn(3), r.Intn(5))
		c, _ := csr.New(g)
		x := spots{g, c, of(t, texts[round%len(texts)]), r.Intn(len(g.Nodes))}
		s, code := New(c, x.d, x.to)
		if code != api.OK || s.To() != x.to {
			t.Fatal(code)
		}
		most := min(7, len(g.Nodes)*len(x.d.Accept))
		var links []api.Link
		for n := range g.Nodes {
			steps, ways := x.least(n, 0, most)
			begin, ok := s.Begin(n)
			if ok != (steps >= 0) || ok && begin != (api.Spot{Node: n, Left: steps}) || !ok && begin != (api.Spot{}) {
				t.Fatal(n, begin, ok)
			}
			if ok {
				links = append(links, api.Link{A: n, B: x.to, N: ways})
				if product, _ := product.Steps(c, x.d, n, x.to); product != steps {
					t.Fatal(product, steps)
				}
			}
			for state := range x.d.Accept {
				checkCell(t, s, x, n, state, most)
			}
		}
		if !pairs.Same(s.Links(), links) {
			t.Fatal(s.Links(), links)
		}
	}
}

func checkCell(t *testing.T, s *Short, x spots, node, state, most int) {
	t.Helper()
	steps, ways := x.least(node, state, most)
	got, ok := s.Steps(node, state)
	if ok != (steps >= 0) || got != max(0, steps) {
		t.Fatal(node, state, got, ok)
	}
	for left := -1; left <= most+1; left++ {
		spot := api.Spot{Node: node, State: state, Left: left}
		if left != steps || steps < 0 {
			if s.Count(spot) != 0 || s.Ends(spot) || len(s.Ways(spot)) != 0 {
				t.Fatal(spot)
			}
			continue
		}
		var want []api.Way
		for _, w := range x.next(spot) {
			if n, k := x.least(w.To.Node, w.To.State, most); n == left-1 && left > 0 {
				w.N = k
				want = append(want, w)
			}
		}
		if s.Count(spot) != ways || s.Ends(spot) != (left == 0) || !slices.Equal(s.Ways(spot), want) {
			t.Fatal(spot, s.Ways(spot), want)
		}
	}
}

func TestExamples(t *testing.T) {
	node := api.Node{Label: "n"}
	two := api.Graph{Nodes: []api.Node{node, node}, Edges: []api.Edge{{From: 0, To: 1, Label: "a"}, {From: 0, To: 1, Label: "a", Weight: 7}}}
	c, _ := csr.New(two)
	s, _ := New(c, of(t, "a*"), 1)
	begin, _ := s.Begin(0)
	if s.Count(begin) != 2 || begin.Left != 1 || len(s.Ways(begin)) != 2 {
		t.Error(begin, s.Count(begin))
	}
	// 70 times two edges side by side: 2^70 ways.
	var g api.Graph
	for i := range 71 {
		g.Nodes = append(g.Nodes, node)
		if i > 0 {
			g.Edges = append(g.Edges, api.Edge{From: i - 1, To: i, Label: "a"}, api.Edge{From: i - 1, To: i, Label: "a"})
		}
	}
	c, _ = csr.New(g)
	s, _ = New(c, of(t, "a*"), 70)
	for n, want := range map[int]uint64{70: 1, 69: 2, 9: 1 << 61, 8: api.Most, 0: api.Most} {
		if begin, ok := s.Begin(n); s.Count(begin) != want || !ok {
			t.Error(n, s.Count(begin))
		}
	}
}

func TestAsManyCellsAsMayBe(t *testing.T) {
	wide, _ := csr.New(api.Graph{Nodes: slices.Repeat([]api.Node{{Label: "n"}}, 10000)})
	long := of(t, "a"+strings.Repeat(".a", 98))
	if s, code := New(wide, long, 9999); s == nil || code != api.OK || len(long.Accept) != 100 {
		t.Error(code)
	}
	if s, code := New(wide, of(t, "a"+strings.Repeat(".a", 99)), 9999); s != nil || code != api.ErrCells {
		t.Error(code)
	}
}

func TestErrorsAndNone(t *testing.T) {
	c, _ := csr.New(api.Graph{Nodes: []api.Node{{Label: "n"}}, Edges: []api.Edge{{Label: "a"}}})
	var many api.Graph
	for range 6000 {
		many.Nodes = append(many.Nodes, api.Node{Label: "n"})
	}
	wide, _ := csr.New(many)
	d := of(t, "a")
	cases := []struct {
		c    *csr.Csr
		d    api.Dfa
		to   int
		code api.Errno
	}{
		{nil, d, 0, api.ErrArg}, {c, api.Dfa{}, 5, api.ErrForm}, {c, d, -1, api.ErrArg}, {c, d, 1, api.ErrArg}, {c, d, 0, api.OK}, {wide, d, 5999, api.OK}, {wide, of(t, "a"+".a.a.a.a.a.a.a.a.a.a.a.a.a.a.a.a.a.a.a.a"+".a.a.a.a.a.a.a.a.a.a.a.a.a.a.a.a.a.a.a.a"+".a.a.a.a.a.a.a.a.a.a.a.a.a.a.a.a.a.a.a.a"+".a.a.a.a.a.a.a.a.a.a.a.a.a.a.a.a.a.a.a.a"+".a.a.a.a.a.a.a.a.a.a.a.a.a.a.a.a.a.a.a.a"+".a.a.a.a.a.a.a.a.a.a.a.a.a.a.a.a.a.a.a.a"+".a.a.a.a.a.a.a.a.a.a.a.a.a.a.a.a.a.a.a.a"+".a.a.a.a.a.a.a.a.a.a.a.a.a.a.a.a.a.a.a.a"+".a.a.a.a.a"), 9999, api.ErrCells},
	}
	for i, x := range cases {
		if s, code := New(x.c, x.d, x.to); code != x.code || (s == nil) != (code != api.OK) {
			t.Error(i, code)
		}
	}
	good, _ := New(c, d, 0)
	for _, s := range []*Short{good, nil} {
		for _, n := range []int{-1, 2, 3, math.MaxInt, math.MinInt} {
			steps, ok := s.Steps(n, 0)
			other, ok2 := s.Steps(0, n)
			begin, ok3 := s.Begin(n)
			if ok || ok2 || ok3 || steps != 0 || other != 0 || begin != (api.Spot{}) || s.Count(api.Spot{Node: n}) != 0 || s.Ends(api.Spot{State: n}) || len(s.Ways(api.Spot{Left: n})) != 0 {
				t.Error(n)
			}
		}
	}
	for _, n := range []int{1, 2, math.MaxInt} {
		if steps, ok := good.Steps(n, 0); steps != 0 || ok || good.Count(api.Spot{Node: n}) != 0 || good.Ends(api.Spot{Node: n, State: 1}) {
			t.Error(n)
		}
		if begin, ok := good.Begin(n); begin != (api.Spot{}) || ok {
			t.Error(n)
		}
	}
	var s *Short
	if s.To() != -1 || len(s.Links()) != 0 {
		t.Error("nil")
	}
}
