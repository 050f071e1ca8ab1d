package graph_test

import (
	"slices"
	"strings"
	"testing"

	"bridleway/api"
	. "bridleway/graph"
)

func num(n int) api.Value     { return api.Value{Kind: api.VInt, Int: n} }
func text(s string) api.Value { return api.Value{Kind: api.VText, Text: s} }

func some() api.Graph {
	return api.Graph{
		Nodes: []api.Node{
			{Label: "b", Props: []api.Prop{{Name: "x", Value: num(-1)}, {Name: "a", Value: text(`it's a=b \`)}}},
			{Label: "a"},
			{Label: "b", Props: []api.Prop{{Name: "x", Value: text("")}}},
		},
		Edges: []api.Edge{{From: 0, To: 2, Label: "z", Weight: 5}, {From: 2, To: 2, Label: "k"}, {From: 1, To: 0, Label: "z", Weight: api.MaxWeight}},
	}
}

func manyProps(n int) []api.Prop {
	var l []api.Prop
	for i := range n {
		l = append(l, api.Prop{Name: "p" + string(rune('a'+i)), Value: num(i)})
	}
	return l
}

func TestCheck(t *testing.T) {
	node := func(n api.Node) api.Graph { return api.Graph{Nodes: []api.Node{{Label: "a"}, n}} }
	edge := func(e api.Edge) api.Graph {
		return api.Graph{Nodes: []api.Node{{Label: "a"}, {Label: "b"}}, Edges: []api.Edge{{Label: "e"}, e}}
	}
	dup := append(manyProps(7), api.Prop{Name: "pa", Value: num(1)})
	cases := []struct {
		g    api.Graph
		at   int
		code api.Errno
	}{
		{api.Graph{}, 0, api.OK},
		{some(), 0, api.OK},
		{node(api.Node{Label: "1"}), 2, api.ErrForm},
		{node(api.Node{Label: "a", Props: []api.Prop{{Name: "", Value: num(1)}}}), 2, api.ErrForm},
		{node(api.Node{Label: "a", Props: []api.Prop{{Name: "x"}}}), 2, api.ErrForm},
		{node(api.Node{Label: "a", Props: []api.Prop{{Name: "x", Value: num(api.MaxInt + 1)}}}), 2, api.ErrForm},
		{node(api.Node{Label: "a", Props: manyProps(8)}), 0, api.OK},
		{node(api.Node{Label: "a", Props: manyProps(9)}), 2, api.ErrLong},
		{node(api.Node{Label: "a", Props: append(manyProps(9), api.Prop{})}), 2, api.ErrForm},
		{node(api.Node{Label: "a", Props: append(dup, dup...)}), 2, api.ErrLong},
		{node(api.Node{Label: "a", Props: dup}), 2, api.ErrDup},
		{edge(api.Edge{Label: "e", From: 1, To: 1, Weight: api.MaxWeight}), 0, api.OK},
		{edge(api.Edge{Label: "", From: 9}), 4, api.ErrForm},
		{edge(api.Edge{Label: "e", From: -1}), 4, api.ErrArg},
		{edge(api.Edge{Label: "e", From: 2}), 4, api.ErrArg},
		{edge(api.Edge{Label: "e", To: -1}), 4, api.ErrArg},
		{edge(api.Edge{Label: "e", To: 2}), 4, api.ErrArg},
		{edge(api.Edge{Label: "e", Weight: -1}), 4, api.ErrArg},
		{edge(api.Edge{Label: "e", Weight: api.MaxWeight + 1}), 4, api.ErrArg},
		{api.Graph{Nodes: make([]api.Node, api.MaxNodes+1)}, 0, api.ErrLong},
		{api.Graph{Nodes: make([]api.Node, api.MaxNodes)}, 1, api.ErrForm},
		{api.Graph{Nodes: make([]api.Node, 1), Edges: make([]api.Edge, api.MaxEdges+1)}, 0, api.ErrLong},
		{api.Graph{Nodes: []api.Node{{Label: "a"}}, Edges: make([]api.Edge, api.MaxEdges)}, 2, api.ErrForm},
	}
	for i, c := range cases {
		at, code := Check(c.g)
		if at != c.at || code != c.code || Good(c.g) != (code == api.OK) {
			t.Error(i, at, code)
		}
	}
}

func TestLists(t *testing.T) {
	g := some()
	if !slices.Equal(Labels(g), []string{"k", "z"}) || !slices.Equal(Kinds(g), []string{"a", "b"}) || !slices.Equal(Names(g), []string{"a", "x"}) {
		t.Error(Labels(g), Kinds(g), Names(g))
	}
	if len(Labels(api.Graph{}))+len(Kinds(api.Graph{}))+len(Names(api.Graph{})) != 0 {
		t.Error("empty")
	}
	n := api.Node{Props: []api.Prop{{Name: "x", Value: num(1)}, {Name: "x", Value: num(2)}}}
	if Prop(n, "x") != num(1) || Prop(n, "y") != (api.Value{}) {
		t.Error("prop")
	}
}

func TestTurnAndSame(t *testing.T) {
	g := some()
	turned := Turn(g)
	for i, e := range turned.Edges {
		was := g.Edges[i]
		if e.From != was.To || e.To != was.From || e.Label != was.Label || e.Weight != was.Weight {
			t.Error(e)
		}
	}
	if !Same(Turn(turned), g) || Same(turned, g) || !Same(g, some()) {
		t.Error("same")
	}
	turned.Nodes[0].Props[0].Name = "other"
	turned.Nodes[1].Label = "other"
	if !Same(g, some()) {
		t.Error("shared")
	}
	changes := []func(g *api.Graph){
		func(g *api.Graph) { g.Nodes[1].Label = "c" },
		func(g *api.Graph) { g.Nodes[0].Props[0].Value.Int++ },
		func(g *api.Graph) { g.Nodes[0].Props = g.Nodes[0].Props[:1] },
		func(g *api.Graph) { g.Nodes = g.Nodes[:2] },
		func(g *api.Graph) { g.Edges[0].Weight++ },
		func(g *api.Graph) { g.Edges = g.Edges[:1] },
	}
	for i, change := range changes {
		other := some()
		change(&other)
		if Same(g, other) || Same(other, g) {
			t.Error(i)
		}
	}
	if !Same(api.Graph{Nodes: []api.Node{{Props: []api.Prop{}}}}, api.Graph{Nodes: []api.Node{{}}, Edges: []api.Edge{}}) {
		t.Error("nil and empty")
	}
}

const someText = "node b x=-1 a='it\\'s a=b \\\\'\nnode a\nnode b x=''\nedge 0 2 z 5\nedge 2 2 k 0\nedge 1 0 z 1000000\n"

func TestPrintAndParse(t *testing.T) {
	s, code := Print(some())
	if s != someText || code != api.OK {
		t.Errorf("%q", s)
	}
	if g, at, code := Parse(s); !Same(g, some()) || at != 0 || code != api.OK {
		t.Error(g, at, code)
	}
	if s, code := Print(api.Graph{}); s != "" || code != api.OK {
		t.Error("empty")
	}
	if g, at, code := Parse(""); !Same(g, api.Graph{}) || at != 0 || code != api.OK {
		t.Error(at, code)
	}
	if s, code := Print(api.Graph{Nodes: []api.Node{{Label: "a", Props: manyProps(9)}}}); s != "" || code != api.ErrLong {
		t.Error(s, code)
	}
	if g, at, code := Parse("edge 0 1 e 3\nnode a\nedge 1 0 f 0\nnode b\n"); code != api.OK || at != 0 || len(g.Nodes) != 2 || g.Edges[0].Label != "e" || g.Edges[1].Label != "f" {
		t.Error(g, at, code)
	}
}

func TestParseRefuses(t *testing.T) {
	lines := []string{"", "node", "edge", "nodea", " node a", "node a ", "node a x", "node a x=", "node a x=01", "node a x=-0", "node a x=1 ", "node a x=1y=2", "node a x=1  ", "node a x='a", "node a x='a\x01'", "node a x=1000000000001", "edge 0 0 e", "edge 0 0 e ", "edge 00 0 e 0", "edge 0 0 e 0 ", "edge 0 0 e 0 1", "edge 0 0 e +1", "edge 0  0 e 1", "edge 0 -0 e 1", "edge 0 0 e 9223372036854775808", "NODE a", "drop 1"}
	for _, line := range lines {
		if g, at, code := Parse("node a\n" + line + "\nx\n"); at != 2 || code != api.ErrForm || !Same(g, api.Graph{}) {
			t.Errorf("%q: %d %v", line, at, code)
		}
	}
	if _, at, code := Parse("node a\nnode b"); at != 2 || code != api.ErrForm {
		t.Error(at, code)
	}
	bad := map[string]api.Errno{
		"node \n": api.ErrForm, "node 1x\n": api.ErrForm, "node a\tb\n": api.ErrForm, "node a x y=1\n": api.ErrForm, "node a =1\n": api.ErrForm,
		"node a x=1 x=2\n": api.ErrDup, "edge 0 0 e 1\n": api.ErrArg, "node a\nedge 0 -1 e 1\n": api.ErrArg, "node a\nedge 0 0  1\n": api.ErrForm, "node a\nedge 0 0 e 9223372036854775807\n": api.ErrArg,
		strings.Repeat("node a\n", api.MaxNodes+1):  api.ErrLong,
		"node a" + strings.Repeat(" b=1", 9) + "\n": api.ErrLong,
	}
	for s, want := range bad {
		if g, at, code := Parse(s); at != 0 || code != want || !Same(g, api.Graph{}) {
			t.Errorf("%.40q: %d %v", s, at, code)
		}
	}
}
