package csr_test

import (
	"cmp"
	"math"
	"math/rand"
	"slices"
	"testing"

	"bridleway/api"
	. "bridleway/csr"
)

func random(r *rand.Rand, nodes, edges int) api.Graph {
	var g api.Graph
	for range nodes {
		g.Nodes = append(g.Nodes, api.Node{Label: "n"})
	}
	for range edges {
		g.Edges = append(g.Edges, api.Edge{From: r.Intn(nodes), To: r.Intn(nodes), Label: string(rune('a' + r.Intn(3))), Weight: r.Intn(3) * r.Intn(500001)})
	}
	return g
}

func order(a, b api.Arc) int {
	return cmp.Or(a.Label-b.Label, a.To-b.To, a.Weight-b.Weight, a.Edge-b.Edge)
}

// plainRow is what Out, or In, of a node must be.
func plainRow(g api.Graph, labels []string, n int, back bool) []api.Arc {
	var l []api.Arc
	for i, e := range g.Edges {
		from, to := e.From, e.To
		if back {
			from, to = to, from
		}
		if from == n {
			l = append(l, api.Arc{Label: slices.Index(labels, e.Label), To: to, Weight: e.Weight, Edge: i})
		}
	}
	slices.SortFunc(l, order)
	return l
}

func TestExample(t *testing.T) {
	g := api.Graph{Nodes: []api.Node{{Label: "n"}, {Label: "n"}, {Label: "n"}}, Edges: []api.Edge{{From: 0, To: 1, Label: "b"}, {From: 0, To: 2, Label: "a"}}}
	c, code := New(g)
	if code != api.OK || c.Out(0)[0].To != 2 || c.Nodes() != 3 || c.Edges() != 2 {
		t.Error(c, code)
	}
}

func TestRows(t *testing.T) {
	r := rand.New(rand.NewSource(7))
	for range 100 {
		g := random(r, 1+r.Intn(6), r.Intn(40))
		c, code := New(g)
		if code != api.OK {
			t.Fatal(code)
		}
		labels := c.Labels()
		if !slices.IsSorted(labels) {
			t.Fatal(labels)
		}
		for n := range g.Nodes {
			for _, back := range []bool{false, true} {
				want := plainRow(g, labels, n, back)
				got := c.Out(n)
				if back {
					got = c.In(n)
				}
				if !slices.Equal(got, want) || c.Degree(n, back) != len(want) {
					t.Fatal(n, back, got, want)
				}
				checkSteps(t, c, n, back, labels, want)
			}
		}
		for i, e := range g.Edges {
			if from, to, ok := c.Ends(i); from != e.From || to != e.To || !ok {
				t.Fatal(i)
			}
		}
	}
}

func checkSteps(t *testing.T, c *Csr, n int, back bool, labels []string, row []api.Arc) {
	t.Helper()
	for _, name := range []string{"a", "b", "c", "d", ""} {
		place, ok := c.Label(name)
		if want := slices.Index(labels, name); ok != (want >= 0) || place != max(0, want) {
			t.Fatal(name, place, ok)
		}
		var want []api.Arc
		for _, a := range row {
			if labels[a.Label] == name {
				want = append(want, a)
			}
		}
		if got := c.Step(n, api.Sym{Label: name, Back: back}); !slices.Equal(got, want) {
			t.Fatal(name, got, want)
		}
	}
}

func TestErrors(t *testing.T) {
	if c, code := New(api.Graph{Nodes: []api.Node{{}}}); c != nil || code != api.ErrForm {
		t.Error(code)
	}
	if c, code := New(api.Graph{Edges: []api.Edge{{Label: "a"}}}); c != nil || code != api.ErrArg {
		t.Error(code)
	}
	if c, code := New(api.Graph{Nodes: make([]api.Node, api.MaxNodes+1)}); c != nil || code != api.ErrLong {
		t.Error(code)
	}
	p := api.Prop{Name: "p", Value: api.Value{Kind: api.VInt}}
	if c, code := New(api.Graph{Nodes: []api.Node{{Label: "a", Props: []api.Prop{p, p}}}}); c != nil || code != api.ErrDup {
		t.Error(code)
	}
}

func TestNone(t *testing.T) {
	empty, _ := New(api.Graph{})
	one, _ := New(api.Graph{Nodes: []api.Node{{Label: "n"}}, Edges: []api.Edge{{Label: "a"}}})
	for _, c := range []*Csr{nil, empty, one} {
		for _, n := range []int{-1, 1, math.MaxInt, math.MinInt} {
			if len(c.Out(n))+len(c.In(n))+len(c.Step(n, api.Sym{Label: "a"}))+c.Degree(n, true) != 0 {
				t.Error(n)
			}
			if from, to, ok := c.Ends(n); from != 0 || to != 0 || ok {
				t.Error(n)
			}
		}
	}
	var c *Csr
	if place, ok := c.Label("a"); place != 0 || ok || c.Nodes() != 0 || c.Edges() != 0 || len(c.Labels()) != 0 {
		t.Error("nil")
	}
}

func TestAnswersAreNewMemory(t *testing.T) {
	g := random(rand.New(rand.NewSource(8)), 3, 20)
	c, _ := New(g)
	was := c.Out(0)
	g.Edges[0] = api.Edge{From: 2, To: 2, Label: "zz"}
	c.Out(0)[0].To = 99
	c.Labels()[0] = "zz"
	c.Step(0, api.Sym{Label: "a"})[0].Edge = 99
	if !slices.Equal(c.Out(0), was) || c.Labels()[0] != "a" {
		t.Error("shared")
	}
}
