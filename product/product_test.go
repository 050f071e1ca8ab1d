package product_test

import (
	"math"
	"math/rand"
	"slices"
	"strings"
	"testing"

	"bridleway/api"
	"bridleway/auto"
	"bridleway/csr"
	"bridleway/dfa"
	"bridleway/pairs"
	. "bridleway/product"
	"bridleway/regex"
)

func of(t *testing.T, s string) api.Dfa {
	t.Helper()
	r, _, code := regex.Parse(s)
	d, made := auto.Of(r, api.MaxStates)
	if code != api.OK || made != api.OK {
		t.Fatal(s, code, made)
	}
	return d
}

func random(r *rand.Rand, nodes, edges, weights int) api.Graph {
	var g api.Graph
	for range nodes {
		g.Nodes = append(g.Nodes, api.Node{Label: "n"})
	}
	for range edges {
		g.Edges = append(g.Edges, api.Edge{From: r.Intn(nodes), To: r.Intn(nodes), Label: []string{"a", "b"}[r.Intn(2)], Weight: r.Intn(weights)})
	}
	return g
}

func newCsr(t *testing.T, g api.Graph) *csr.Csr {
	t.Helper()
	c, code := csr.New(g)
	if code != api.OK {
		t.Fatal(code)
	}
	return c
}

var texts = []string{"a", "^a", "()", "a*", "a.b", "(a|b)*", "a.(b|^a)*", "(a.^b)+", "a?.b*", "c", "a*.c", "(a|^a)*.b"}

// plain is by end the least cost and the fewest hops of accepted walks from a node, of at most so many hops.
func plain(g api.Graph, d api.Dfa, from, hops int) (costs, steps map[int]int) {
	type cell struct{ node, state int }
	costs, steps = map[int]int{}, map[int]int{}
	at := map[cell]int{{from, 0}: 0}
	for n := range hops + 1 {
		for x, cost := range at {
			if d.Accept[x.state] {
				if old, ok := costs[x.node]; !ok || cost < old {
					costs[x.node] = cost
				}
				if _, ok := steps[x.node]; !ok {
					steps[x.node] = n
				}
			}
		}
		next := map[cell]int{}
		for x, cost := range at {
			for _, e := range g.Edges {
				for _, back := range []bool{false, true} {
					begin, end := e.From, e.To
					if back {
						begin, end = end, begin
					}
					state, ok := dfa.Next(d, x.state, api.Sym{Label: e.Label, Back: back})
					if begin != x.node || !ok {
						continue
					}
					y := cell{end, state}
					if old, ok := next[y]; !ok || cost+e.Weight < old {
						next[y] = cost + e.Weight
					}
				}
			}
		}
		at = next
	}
	return costs, steps
}

func TestReach(t *testing.T) {
	r := rand.New(rand.NewSource(23))
	for round := range 480 {
		g := random(r, 1+r.Intn(5), r.Intn(8), 4)
		if round%4 == 0 {
			// Many ways of unlike costs: what was found first is often not the cheapest.
			g = random(r, 8, 30, 50)
		}
		c := newCsr(t, g)
		d := of(t, texts[round%len(texts)])
		var all []api.Link
		var nodes []int
		for from := range g.Nodes {
			costs, steps := plain(g, d, from, len(g.Nodes)*len(d.Accept)+1)
			l, code := Reach(c, d, from)
			if code != api.OK || len(l) != len(costs) || !pairs.Good(l) {
				t.Fatal(l, code, costs)
			}
			for _, x := range l {
				if cost, ok := costs[x.B]; !ok || x.Cost != cost || x.A != from || x.N != 1 {
					t.Fatal(l, costs)
				}
			}
			for to := range g.Nodes {
				want, ok := steps[to]
				if got, gotOK := Steps(c, d, from, to); got != want || gotOK != ok {
					t.Fatal(from, to, got, gotOK, want)
				}
			}
			all = append(all, l...)
			nodes = append(nodes, from)
		}
		if l, code := Pairs(c, d, nodes...); code != api.OK || !pairs.Same(l, all) {
			t.Fatal(l, code)
		}
	}
}

func TestOneStepIsEdges(t *testing.T) {
	g := random(rand.New(rand.NewSource(24)), 6, 30, 5)
	c := newCsr(t, g)
	for _, s := range []string{"a", "^b", "c"} {
		d := of(t, s)
		for n := range g.Nodes {
			if l, _ := Reach(c, d, n); !pairs.Same(l, pairs.From(pairs.Edges(c, d.Syms[0]), n)) {
				t.Error(s, n, l)
			}
		}
	}
}

func TestCheck(t *testing.T) {
	c := newCsr(t, random(rand.New(rand.NewSource(1)), 1000, 0, 1))
	empty := newCsr(t, api.Graph{})
	two := of(t, "a")
	cases := []struct {
		c    *csr.Csr
		d    api.Dfa
		hops int
		code api.Errno
	}{
		{nil, api.Dfa{}, -1, api.ErrArg}, {c, api.Dfa{}, -1, api.ErrArg}, {c, api.Dfa{}, math.MaxInt, api.ErrForm}, {c, two, 499, api.OK}, {c, two, 500, api.ErrCells}, {c, two, math.MaxInt, api.ErrCells}, {c, two, 0, api.OK}, {empty, two, math.MaxInt, api.OK},
	}
	one := newCsr(t, api.Graph{Nodes: []api.Node{{Label: "n"}}})
	if Check(one, of(t, "()"), api.MaxCells-1) != api.OK || Check(one, of(t, "()"), api.MaxCells) != api.ErrCells {
		t.Error("one cell")
	}
	for i, x := range cases {
		if code := Check(x.c, x.d, x.hops); code != x.code {
			t.Error(i, code)
		}
	}
	if l, code := Reach(nil, two, 0); l != nil || code != api.ErrArg {
		t.Error(code)
	}
	if l, code := Reach(c, api.Dfa{}, -1); l != nil || code != api.ErrForm {
		t.Error(code)
	}
	for _, n := range []int{-1, 1000, math.MaxInt} {
		if l, code := Reach(c, two, n); l != nil || code != api.ErrArg {
			t.Error(code)
		}
		if l, code := Pairs(c, two, 0, n); l != nil || code != api.ErrArg {
			t.Error(code)
		}
		for _, ends := range [][2]int{{n, n}, {0, n}, {n, 0}} {
			if s, ok := Steps(c, of(t, "()"), ends[0], ends[1]); s != 0 || ok {
				t.Error(s, ok)
			}
		}
	}
	if s, ok := Steps(c, api.Dfa{}, 0, 0); s != 0 || ok {
		t.Error(s, ok)
	}
	if l, code := Pairs(c, two); len(l) != 0 || code != api.OK {
		t.Error(l, code)
	}
}

func TestTooManyPairs(t *testing.T) {
	var g api.Graph
	for i := range 1500 {
		g.Nodes = append(g.Nodes, api.Node{Label: "n"})
		g.Edges = append(g.Edges, api.Edge{From: i, To: (i + 1) % 1500, Label: "a", Weight: i})
	}
	c := newCsr(t, g)
	d := of(t, "a*")
	var nodes []int
	for i := range 1500 {
		nodes = append(nodes, i)
	}
	if l, code := Pairs(c, d, nodes...); l != nil || code != api.ErrCells {
		t.Error(len(l), code)
	}
	if l, code := Pairs(c, d, nodes[:666]...); len(l) != 666*1500 || code != api.OK {
		t.Error(len(l), code)
	}
	if l, code := Pairs(c, d, append(nodes, -1)...); l != nil || code != api.ErrArg {
		t.Error(code)
	}
}

func TestAsManyAsMayBe(t *testing.T) {
	// A thousand nodes in a ring: each reaches all.
	var g api.Graph
	var nodes []int
	for i := range 1000 {
		g.Nodes = append(g.Nodes, api.Node{Label: "n"})
		g.Edges = append(g.Edges, api.Edge{From: i, To: (i + 1) % 1000, Label: "a"})
		nodes = append(nodes, i)
	}
	c := newCsr(t, g)
	if l, code := Pairs(c, of(t, "a*"), nodes...); len(l) != api.MaxCells || code != api.OK {
		t.Error(len(l), code)
	}
	if l, code := Pairs(c, of(t, "a*"), append(nodes, 0)...); l != nil || code != api.ErrCells {
		t.Error(len(l), code)
	}
	// Ten thousand nodes and a hundred states are as many cells as may be.
	wide := newCsr(t, api.Graph{Nodes: slices.Repeat([]api.Node{{Label: "n"}}, 10000)})
	long := of(t, "a"+strings.Repeat(".a", 98))
	if l, code := Reach(wide, long, 0); len(l) != 0 || code != api.OK || len(long.Accept) != 100 {
		t.Error(l, code)
	}
	if steps, ok := Steps(wide, of(t, "(a"+strings.Repeat(".a", 98)+")?"), 5, 5); steps != 0 || !ok {
		t.Error(steps, ok)
	}
}

func TestHopsAndWalks(t *testing.T) {
	g := api.Graph{Nodes: []api.Node{{Label: "n"}, {Label: "n"}}, Edges: []api.Edge{
		{From: 0, To: 1, Label: "a", Weight: 9}, {From: 0, To: 1, Label: "a", Weight: 3}, {From: 1, To: 1, Label: "a", Weight: 1}, {From: 0, To: 0, Label: "a", Weight: 5}, {From: 0, To: 1, Label: "b"},
	}}
	c := newCsr(t, g)
	if l := Hops(c, 0, api.Sym{Label: "a"}); !slices.Equal(l, []api.Hop{{Edge: 0}, {Edge: 1}, {Edge: 3}}) {
		t.Error(l)
	}
	if l := Hops(c, 1, api.Sym{Label: "a", Back: true}); !slices.Equal(l, []api.Hop{{Edge: 0, Back: true}, {Edge: 1, Back: true}, {Edge: 2, Back: true}}) {
		t.Error(l)
	}
	if len(Hops(c, 5, api.Sym{Label: "a"}))+len(Hops(nil, 0, api.Sym{Label: "a"})) != 0 {
		t.Error("none")
	}
	if from, to, ok := Ends(c, api.Hop{Edge: 1, Back: true}); from != 1 || to != 0 || !ok {
		t.Error(from, to, ok)
	}
	for _, e := range []int{-1, 5, math.MaxInt} {
		if from, to, ok := Ends(c, api.Hop{Edge: e, Back: true}); from != 0 || to != 0 || ok {
			t.Error(e)
		}
	}
	walk := []api.Hop{{Edge: 3}, {Edge: 0}, {Edge: 2, Back: true}, {Edge: 4, Back: true}}
	if end, nodes, ok := Walk(c, 0, walk...); end != 0 || !slices.Equal(nodes, []int{0, 0, 1, 1, 0}) || !ok {
		t.Error(end, nodes, ok)
	}
	if end, nodes, ok := Walk(c, 1); end != 1 || !slices.Equal(nodes, []int{1}) || !ok {
		t.Error(end, nodes, ok)
	}
	for _, bad := range [][]api.Hop{{{Edge: 0, Back: true}}, {{Edge: 0}, {Edge: 0}}, {{Edge: 9}}, {{Edge: 0}, {Edge: -1}}} {
		if end, nodes, ok := Walk(c, 0, bad...); end != 0 || nodes != nil || ok {
			t.Error(bad)
		}
	}
	if end, nodes, ok := Walk(c, 2); end != 0 || nodes != nil || ok {
		t.Error("no node")
	}
	if Cost(g, append(walk, api.Hop{Edge: -1}, api.Hop{Edge: 5})...) != 15 || Cost(api.Graph{}, walk...) != 0 {
		t.Error("cost")
	}
	great := api.Graph{Edges: []api.Edge{{Weight: math.MaxInt}, {Weight: -5}}}
	if Cost(great, api.Hop{}, api.Hop{}) != -2 || Cost(great, api.Hop{Edge: 1, Back: true}) != -5 {
		t.Error("as int adds")
	}
}
