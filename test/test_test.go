package test_test

import (
	"math"
	"math/rand"
	"slices"
	"testing"

	"bridleway/api"
	"bridleway/cols"
	"bridleway/query"
	. "bridleway/test"
)

func num(n int) api.Value { return api.Value{Kind: api.VInt, Int: n} }

func random(r *rand.Rand) (api.Graph, api.Query) {
	var g api.Graph
	for range r.Intn(15) {
		n := api.Node{Label: string(rune('A' + r.Intn(2)))}
		for _, name := range []string{"p", "q"} {
			if r.Intn(3) > 0 {
				n.Props = append(n.Props, api.Prop{Name: name, Value: num(r.Intn(4))})
			}
		}
		g.Nodes = append(g.Nodes, n)
	}
	var q api.Query
	for range r.Intn(6) {
		p := api.Place{Var: string(rune('x' + r.Intn(3)))}
		if r.Intn(2) == 0 {
			p.Label = string(rune('A' + r.Intn(3)/2))
		}
		for range r.Intn(3) {
			p.Tests = append(p.Tests, api.Test{Name: []string{"p", "q"}[r.Intn(2)], Op: 1 + r.Intn(6), Value: num(r.Intn(4))})
		}
		q.Places = append(q.Places, p)
	}
	return g, q
}

func TestNodesAreThoseThatFit(t *testing.T) {
	r := rand.New(rand.NewSource(21))
	for range 1500 {
		g, q := random(r)
		c, _ := cols.New(g)
		least, fewest := "", math.MaxInt
		for _, v := range append(query.Vars(q), "none") {
			var fit []int
			for n := range g.Nodes {
				if Fits(g, n, q, v) {
					fit = append(fit, n)
				}
			}
			nodes := Nodes(c, q, v)
			if !slices.Equal(nodes, fit) {
				t.Fatal(q, v, nodes, fit)
			}
			if v != "none" && len(fit) < fewest {
				least, fewest = v, len(fit)
			}
			checkAll(t, g, c, q, v, nodes)
		}
		if v, ok := Least(c, q); v != least || ok != (len(q.Places) > 0) {
			t.Fatal(v, ok, least)
		}
	}
}

func checkAll(t *testing.T, g api.Graph, c *cols.Cols, q api.Query, v string, nodes []int) {
	t.Helper()
	lists := [][]int{All(g, query.Tests(q, v)...)}
	for _, label := range query.Labels(q, v) {
		lists = append(lists, c.With(label))
	}
	if !slices.Equal(Common(lists...), nodes) {
		t.Fatal(q, v)
	}
	for _, x := range query.Tests(q, v) {
		if !slices.Equal(Each(c, x), All(g, x)) {
			t.Fatal(x)
		}
	}
}

func TestCommon(t *testing.T) {
	if len(Common()) != 0 || len(Common(nil)) != 0 || len(Common([]int{1}, nil)) != 0 {
		t.Error("none")
	}
	l := []int{1, 3, 5, 7}
	if got := Common(l); !slices.Equal(got, l) {
		t.Error(got)
	} else if got[0] = 9; l[0] != 1 {
		t.Error("shared")
	}
	if got := Common(l, []int{0, 3, 4, 7}, []int{3, 5, 6, 7, 8}); !slices.Equal(got, []int{3, 7}) || !slices.Equal(l, []int{1, 3, 5, 7}) {
		t.Error(got)
	}
	Common([]int{5, 1, 9, 1}, []int{9, 1, 5})
}

func TestEdges(t *testing.T) {
	g := api.Graph{Nodes: []api.Node{{Label: "A", Props: []api.Prop{{Name: "p", Value: num(2)}}}, {Label: "A"}}}
	q := api.Query{Places: []api.Place{{Var: "x", Label: "A", Tests: []api.Test{{Name: "p", Op: api.Gt, Value: num(1)}}}}}
	c, _ := cols.New(g)
	if !slices.Equal(Nodes(c, q, "x"), []int{0}) || !slices.Equal(Nodes(c, q, "y"), []int{0, 1}) || !slices.Equal(All(g), []int{0, 1}) {
		t.Error("nodes")
	}
	for _, n := range []int{-1, 2, math.MaxInt, math.MinInt} {
		if Fits(g, n, q, "y") {
			t.Error(n)
		}
	}
	// A node without the property fits no test of it, whatever it asks.
	for op := -1; op <= 7; op++ {
		if slices.Contains(All(g, api.Test{Name: "p", Op: op, Value: num(9)}), 1) {
			t.Error(op)
		}
	}
	if len(Nodes(nil, q, "x"))+len(Nodes(nil, q, "y"))+len(Each(nil, q.Places[0].Tests[0])) != 0 {
		t.Error("nil")
	}
	if v, ok := Least(c, api.Query{}); v != "" || ok {
		t.Error(v, ok)
	}
}
