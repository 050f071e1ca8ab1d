package cols_test

import (
	"math"
	"math/rand"
	"slices"
	"testing"

	"bridleway/api"
	. "bridleway/cols"
	"bridleway/graph"
	"bridleway/value"
)

func num(n int) api.Value     { return api.Value{Kind: api.VInt, Int: n} }
func text(s string) api.Value { return api.Value{Kind: api.VText, Text: s} }

func random(r *rand.Rand) api.Graph {
	var g api.Graph
	for range r.Intn(12) {
		n := api.Node{Label: string(rune('A' + r.Intn(3)))}
		for _, name := range []string{"p", "q", "r"} {
			switch r.Intn(3) {
			case 0:
				n.Props = append(n.Props, api.Prop{Name: name, Value: num(r.Intn(4) - 1)})
			case 1:
				n.Props = append(n.Props, api.Prop{Name: name, Value: text(string(rune('a' + r.Intn(3))))})
			}
		}
		g.Nodes = append(g.Nodes, n)
	}
	return g
}

func pick(g api.Graph, ok func(n api.Node) bool) []int {
	var l []int
	for i, n := range g.Nodes {
		if ok(n) {
			l = append(l, i)
		}
	}
	return l
}

func TestAgainstTheGraph(t *testing.T) {
	r := rand.New(rand.NewSource(9))
	asked := []api.Value{{}, num(-1), num(0), num(2), text("a"), text("b"), text(""), {Kind: api.VInt, Int: 1, Text: "x"}}
	for range 200 {
		g := random(r)
		c, code := New(g)
		if code != api.OK {
			t.Fatal(code)
		}
		for _, label := range []string{"A", "B", "C", "D", ""} {
			if !slices.Equal(c.With(label), pick(g, func(n api.Node) bool { return n.Label == label })) {
				t.Fatal(label)
			}
		}
		for _, name := range []string{"p", "q", "r", "s", ""} {
			for _, v := range asked {
				having := pick(g, func(n api.Node) bool { return v.Kind != api.VNone && graph.Prop(n, name) == v })
				if !slices.Equal(c.Having(name, v), having) {
					t.Fatal(name, v)
				}
				for op := -1; op <= 7; op++ {
					want := pick(g, func(n api.Node) bool { return value.Test(op, graph.Prop(n, name), v) })
					if !slices.Equal(c.Test(name, op, v), want) {
						t.Fatal(name, op, v)
					}
				}
			}
			checkValues(t, c, g, name)
		}
	}
}

func checkValues(t *testing.T, c *Cols, g api.Graph, name string) {
	t.Helper()
	l := c.Values(name)
	for i, v := range l {
		if v.Kind == api.VNone || i > 0 && value.Cmp(l[i-1], v) >= 0 {
			t.Fatal(l)
		}
	}
	for i, n := range g.Nodes {
		v := graph.Prop(n, name)
		if c.Get(i, name) != v || v.Kind != api.VNone && !slices.Contains(l, v) {
			t.Fatal(i, name, v)
		}
		if label, ok := c.Label(i); label != n.Label || !ok {
			t.Fatal(label)
		}
	}
	if !slices.Equal(c.All(), pick(g, func(api.Node) bool { return true })) {
		t.Fatal("all")
	}
}

func TestExample(t *testing.T) {
	p := []api.Prop{{Name: "p", Value: num(1)}}
	c, _ := New(api.Graph{Nodes: []api.Node{{Label: "A", Props: p}, {Label: "B", Props: p}}})
	if !slices.Equal(c.Having("p", num(1)), []int{0, 1}) || len(c.Values("p")) != 1 {
		t.Error("having")
	}
}

func TestErrorsAndNone(t *testing.T) {
	for code, g := range map[api.Errno]api.Graph{
		api.ErrForm: {Nodes: []api.Node{{}}},
		api.ErrArg:  {Edges: []api.Edge{{Label: "a"}}},
		api.ErrLong: {Edges: make([]api.Edge, api.MaxEdges+1)},
	} {
		if c, got := New(g); c != nil || got != code {
			t.Error(got)
		}
	}
	one, _ := New(api.Graph{Nodes: []api.Node{{Label: "A"}}})
	for _, c := range []*Cols{nil, one} {
		for _, n := range []int{-1, 1, math.MaxInt, math.MinInt} {
			if label, ok := c.Label(n); label != "" || ok || c.Get(n, "p") != (api.Value{}) {
				t.Error(n)
			}
		}
		if len(c.With("B"))+len(c.Having("p", num(1)))+len(c.Test("p", api.Ne, num(1)))+len(c.Values("p")) != 0 {
			t.Error("none")
		}
	}
	var c *Cols
	if len(c.All()) != 0 {
		t.Error("nil")
	}
}

func TestMemory(t *testing.T) {
	g := api.Graph{Nodes: []api.Node{{Label: "A", Props: []api.Prop{{Name: "p", Value: num(1)}}}, {Label: "A"}}}
	c, _ := New(g)
	g.Nodes[0].Props[0].Value = num(2)
	g.Nodes[1].Label = "B"
	c.With("A")[0] = 5
	c.All()[0] = 5
	if c.Get(0, "p") != num(1) || !slices.Equal(c.With("A"), []int{0, 1}) || !slices.Equal(c.Having("p", num(1)), []int{0}) || c.All()[0] != 0 {
		t.Error("shared")
	}
}
