package dag_test

import (
	"math"
	"math/rand"
	"slices"
	"testing"

	"bridleway/api"
	"bridleway/auto"
	"bridleway/csr"
	. "bridleway/dag"
	"bridleway/dfa"
	"bridleway/pairs"
	"bridleway/product"
	"bridleway/regex"
)

func of(t *testing.T, s string) api.Dfa {
	t.Helper()
	r, _, code := regex.Parse(s)
	d, made := auto.Of(r, api.MaxStates)
	if code != api.OK || made != api.OK {
		t.Fatal(s, code, made)
	}
	return d
}

func random(r *rand.Rand, nodes, edges int) api.Graph {
	var g api.Graph
	for range nodes {
		g.Nodes = append(g.Nodes, api.Node{Label: "n"})
	}
	for range edges {
		g.Edges = append(g.Edges, api.Edge{From: r.Intn(nodes), To: r.Intn(nodes), Label: []string{"a", "b"}[r.Intn(2)]})
	}
	return g
}

// next is the hops from a spot, as the graph says.
func next(c *csr.Csr, d api.Dfa, s api.Spot) []api.Way {
	var l []api.Way
	for e := range c.Edges() {
		for _, back := range []bool{false, true} {
			h := api.Hop{Edge: e, Back: back}
			from, to, _ := product.Ends(c, h)
			arcs := c.Out(from)
			if back {
				arcs = c.In(from)
			}
			i := slices.IndexFunc(arcs, func(a api.Arc) bool { return a.Edge == e })
			label := c.Labels()[arcs[i].Label]
			if state, ok := dfa.Next(d, s.State, api.Sym{Label: label, Back: back}); ok && from == s.Node {
				l = append(l, api.Way{Hop: h, To: api.Spot{Node: to, State: state, Left: s.Left - 1}})
			}
		}
	}
	return l
}

// count is in how many ways one comes from a spot to a node, by trying all.
func count(c *csr.Csr, d api.Dfa, s api.Spot, to int) uint64 {
	var n uint64
	if s.Node == to && d.Accept[s.State] {
		n = 1
	}
	if s.Left > 0 {
		for _, w := range next(c, d, s) {
			n += count(c, d, w.To, to)
		}
	}
	return n
}

func TestCounts(t *testing.T) {
	r := rand.New(rand.NewSource(24))
	texts := []string{"a", "^a", "()", "a*", "a.b", "(a|b)*", "a.(b|^a)*", "a?.b*", "c"}
	for round := range 150 {
		g := random(r, 1+r.Intn(4), r.Intn(6))
		c, _ := csr.New(g)
		d := of(t, texts[round%len(texts)])
		hops, to := r.Intn(5), r.Intn(len(g.Nodes))
		x, code := New(c, d, hops, to)
		if code != api.OK || x.To() != to {
			t.Fatal(code)
		}
		var links []api.Link
		for n := range g.Nodes {
			begin, ok := x.Begin(n)
			if !ok || begin != (api.Spot{Node: n, Left: hops}) {
				t.Fatal(begin, ok)
			}
			if k := count(c, d, begin, to); k > 0 {
				links = append(links, api.Link{A: n, B: to, N: k})
			}
			for state := range d.Accept {
				for left := range hops + 1 {
					checkSpot(t, x, c, d, api.Spot{Node: n, State: state, Left: left}, to)
				}
			}
		}
		if !pairs.Same(x.Links(), links) {
			t.Fatal(x.Links(), links)
		}
	}
}

func checkSpot(t *testing.T, x *Dag, c *csr.Csr, d api.Dfa, s api.Spot, to int) {
	t.Helper()
	want := count(c, d, s, to)
	if x.Count(s) != want || x.Ends(s) != (s.Node == to && d.Accept[s.State]) {
		t.Fatal(s, x.Count(s), want)
	}
	var ways []api.Way
	if s.Left > 0 {
		for _, w := range next(c, d, s) {
			if w.N = count(c, d, w.To, to); w.N > 0 {
				ways = append(ways, w)
			}
		}
	}
	if got := x.Ways(s); !slices.Equal(got, ways) {
		t.Fatal(s, got, ways)
	}
}

func loop(t *testing.T) *csr.Csr {
	t.Helper()
	c, code := csr.New(api.Graph{Nodes: []api.Node{{Label: "n"}}, Edges: []api.Edge{{Label: "a"}}})
	if code != api.OK {
		t.Fatal(code)
	}
	return c
}

func TestExamples(t *testing.T) {
	x, _ := New(loop(t), of(t, "a*"), 2, 0)
	begin, _ := x.Begin(0)
	if x.Count(begin) != 3 {
		t.Error(x.Count(begin))
	}
	// Along and against a loop are two hops.
	x, _ = New(loop(t), of(t, "(a|^a)*"), 3, 0)
	begin, _ = x.Begin(0)
	if x.Count(begin) != 15 || x.Ways(begin)[0].Hop.Back || !x.Ways(begin)[1].Hop.Back {
		t.Error(x.Count(begin))
	}
	x, _ = New(loop(t), of(t, "(a|^a)*"), 70, 0)
	begin, _ = x.Begin(0)
	if x.Count(begin) != api.Most {
		t.Error(x.Count(begin))
	}
	x, code := New(loop(t), of(t, "a*"), 499999, 0)
	begin, _ = x.Begin(0)
	if code != api.OK || x.Count(begin) != 500000 {
		t.Error(code)
	}
}

func TestWaysStandInOrder(t *testing.T) {
	g := api.Graph{Nodes: []api.Node{{Label: "n"}}, Edges: slices.Repeat([]api.Edge{{Label: "a"}}, 30)}
	c, _ := csr.New(g)
	x, _ := New(c, of(t, "(a|^a)*"), 2, 0)
	begin, _ := x.Begin(0)
	ways := x.Ways(begin)
	if len(ways) != 60 {
		t.Fatal(len(ways))
	}
	for i, w := range ways {
		if w.Hop != (api.Hop{Edge: i / 2, Back: i%2 == 1}) || w.To != (api.Spot{Left: 1}) || w.N != 61 {
			t.Error(i, w)
		}
	}
}

func TestErrorsAndNone(t *testing.T) {
	c, d := loop(t), of(t, "a")
	cases := []struct {
		c        *csr.Csr
		d        api.Dfa
		hops, to int
		code     api.Errno
	}{
		{nil, d, 1, 0, api.ErrArg}, {c, d, -1, 0, api.ErrArg}, {c, api.Dfa{}, 1, 5, api.ErrForm}, {c, d, 500000, 5, api.ErrCells}, {c, d, 1, -1, api.ErrArg}, {c, d, 1, 1, api.ErrArg}, {c, d, 499999, 0, api.OK},
	}
	for i, x := range cases {
		if g, code := New(x.c, x.d, x.hops, x.to); code != x.code || (g == nil) != (code != api.OK) {
			t.Error(i, code)
		}
	}
	x, _ := New(c, d, 2, 0)
	for _, s := range []api.Spot{{Node: -1}, {Node: 1}, {State: -1}, {State: 2}, {Left: -1}, {Left: 3}, {Left: math.MaxInt}} {
		for _, g := range []*Dag{x, nil} {
			if g.Count(s) != 0 || g.Ends(s) || len(g.Ways(s)) != 0 {
				t.Error(s)
			}
		}
	}
	for _, n := range []int{-1, 1, math.MaxInt} {
		if s, ok := x.Begin(n); s != (api.Spot{}) || ok {
			t.Error(n)
		}
	}
	var g *Dag
	if s, ok := g.Begin(0); s != (api.Spot{}) || ok || g.To() != -1 || len(g.Links()) != 0 {
		t.Error("nil")
	}
	d.Accept[1] = false
	if begin, _ := x.Begin(0); x.Count(begin) != 1 {
		t.Error("kept")
	}
}
