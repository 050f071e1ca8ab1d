package domain_test

import (
	"math/rand"
	"slices"
	"strings"
	"testing"

	"bridleway/api"
	"bridleway/auto"
	"bridleway/csr"
	. "bridleway/domain"
	"bridleway/forest"
	"bridleway/pairs"
	"bridleway/parse"
	"bridleway/paths"
	"bridleway/product"
	"bridleway/regex"
	"bridleway/test"
)

func read(t *testing.T, s string) api.Query {
	t.Helper()
	q, _, code := parse.Parse(s)
	if code != api.OK {
		t.Fatal(s, code)
	}
	return q
}

func random(r *rand.Rand, nodes, edges int) api.Graph {
	var g api.Graph
	for range nodes {
		n := api.Node{Label: []string{"A", "B"}[r.Intn(2)]}
		if r.Intn(2) == 0 {
			n.Props = []api.Prop{{Name: "p", Value: api.Value{Kind: api.VInt, Int: r.Intn(3)}}}
		}
		g.Nodes = append(g.Nodes, n)
	}
	for range edges {
		g.Edges = append(g.Edges, api.Edge{From: r.Intn(nodes), To: r.Intn(nodes), Label: []string{"a", "b"}[r.Intn(2)], Weight: r.Intn(5)})
	}
	return g
}

func some(t *testing.T, g api.Graph) *csr.Csr {
	t.Helper()
	c, code := csr.New(g)
	if code != api.OK {
		t.Fatal(code)
	}
	return c
}

func TestLinks(t *testing.T) {
	r := rand.New(rand.NewSource(27))
	for range 100 {
		g := random(r, 1+r.Intn(4), r.Intn(8))
		c := some(t, g)
		x, _, _ := regex.Parse([]string{"a", "^b", "a*", "a.b", "(a|^b)+"}[r.Intn(5)])
		unnamed := api.Path{Regex: x}
		l, code := Links(c, unnamed, false, 50)
		d, _ := auto.Of(x, 50)
		var want []api.Link
		for n := range g.Nodes {
			reached, _ := product.Reach(c, d, n)
			want = append(want, reached...)
		}
		if code != api.OK || !pairs.Same(l, want) || !pairs.Good(l) {
			t.Fatal(l, want)
		}
		for _, p := range []api.Path{{Regex: x, Var: "r", Hops: 1 + r.Intn(4)}, {Regex: x, Var: "r", Short: true}} {
			checkNamed(t, g, c, p)
		}
	}
}

func checkNamed(t *testing.T, g api.Graph, c *csr.Csr, p api.Path) {
	t.Helper()
	told, code := Links(c, p, true, 50)
	if code != api.OK || !pairs.Good(told) {
		t.Fatal(told, code)
	}
	found := 0
	for to := range g.Nodes {
		rows, _ := paths.New(c, p, to, 50)
		for from := range g.Nodes {
			i := slices.IndexFunc(told, func(x api.Link) bool { return x.A == from && x.B == to })
			n := rows.Count(from)
			if (i >= 0) != (n > 0) || i >= 0 && told[i] != (api.Link{A: from, B: to, N: n}) {
				t.Fatal(from, to, n)
			}
			if n > 0 {
				found++
			}
		}
	}
	not, _ := Links(c, p, false, 50)
	for i, x := range told {
		x.N = 1
		if not[i] != x {
			t.Fatal(not[i], x)
		}
	}
	if len(not) != found || len(told) != found {
		t.Fatal(found)
	}
}

func TestLinksErrors(t *testing.T) {
	c := some(t, random(rand.New(rand.NewSource(1)), 3, 3))
	empty := some(t, api.Graph{})
	a, _, _ := regex.Parse("a")
	long, _, _ := regex.Parse("a.a.a")
	cases := []struct {
		c    *csr.Csr
		p    api.Path
		most int
		code api.Errno
	}{
		{nil, api.Path{}, 0, api.ErrArg}, {c, api.Path{Regex: a}, 0, api.OK}, {c, api.Path{Regex: long}, 0, api.ErrArg}, {c, api.Path{}, 5, api.ErrForm}, {c, api.Path{Regex: long}, 3, api.ErrCells}, {c, api.Path{Regex: a, Var: "r", Hops: 1}, 1, api.ErrCells}, {c, api.Path{Regex: a, Var: "r", Hops: -1}, 5, api.ErrArg}, {c, api.Path{Regex: a, Var: "r", Hops: 1000000}, 5, api.ErrCells}, {c, api.Path{Regex: a, Var: "r", Short: true}, 5, api.OK},
		{empty, api.Path{Regex: long}, 3, api.ErrCells}, {empty, api.Path{Regex: a}, 3, api.OK},
	}
	for i, x := range cases {
		l, code := Links(x.c, x.p, true, x.most)
		if code != x.code || code != api.OK && l != nil {
			t.Error(i, code)
		}
	}
}

func TestTooManyLinks(t *testing.T) {
	var g api.Graph
	for i := range 1001 {
		g.Nodes = append(g.Nodes, api.Node{Label: "n"})
		g.Edges = append(g.Edges, api.Edge{From: i, To: (i + 1) % 1001, Label: "a"})
	}
	c := some(t, g)
	x, _, _ := regex.Parse("a*")
	less := api.Graph{Nodes: g.Nodes[:1000], Edges: slices.Clone(g.Edges[:1000])}
	less.Edges[999].To = 0
	if l, code := Links(some(t, less), api.Path{Regex: x, Var: "r", Short: true}, false, 5); len(l) != api.MaxCells || code != api.OK {
		t.Error(len(l), code)
	}
	if l, code := Links(c, api.Path{Regex: x}, false, 5); l != nil || code != api.ErrCells {
		t.Error(code)
	}
	if l, code := Links(c, api.Path{Regex: x, Var: "r", Short: true}, false, 5); l != nil || code != api.ErrCells {
		t.Error(code)
	}
}

// plainOf is Of, link by link.
func plainOf(t *testing.T, g api.Graph, q api.Query) api.Parts {
	t.Helper()
	c := some(t, g)
	f, _ := forest.Of(q)
	leads := func(i, from, to int) (api.Link, bool) {
		told := slices.Contains(q.Return, q.Paths[i].Var)
		l, _ := Links(c, q.Paths[i], told, 100)
		for _, x := range l {
			if x.A == from && x.B == to {
				return x, true
			}
		}
		return api.Link{}, false
	}
	// join is the link between two nodes that all of some paths have.
	join := func(paths []int, v, node, above int) (api.Link, bool) {
		x := api.Link{A: above, B: node, N: 1}
		for _, i := range paths {
			from, to := above, node
			if q.Paths[i].From == f.Vars[v] {
				from, to = to, from
			}
			y, ok := leads(i, from, to)
			if !ok {
				return x, false
			}
			x.Cost += y.Cost
			x.N *= y.N
		}
		return x, true
	}
	p := api.Parts{Nodes: make([][]api.Link, len(f.Vars)), Links: make([][]api.Link, len(f.Vars))}
	for v := range f.Vars {
		for n := range g.Nodes {
			if x, ok := join(f.Loops[v], v, n, n); ok && test.Fits(g, n, q, f.Vars[v]) {
				p.Nodes[v] = append(p.Nodes[v], x)
			}
		}
	}
	for v, parent := range f.Parent {
		if parent < 0 {
			continue
		}
		for _, a := range p.Nodes[parent] {
			for _, b := range p.Nodes[v] {
				if x, ok := join(f.Links[v], v, b.A, a.A); ok {
					p.Links[v] = append(p.Links[v], x)
				}
			}
		}
	}
	return p
}

func TestOf(t *testing.T) {
	r := rand.New(rand.NewSource(28))
	for _, s := range []string{
		"MATCH (x:A)-[a]->(y) RETURN x, y", "MATCH (x)-[a]->(y {p > 0})<-[b*]-(z) RETURN y", "MATCH (x)-[a]->(x)-[b|a]->(y)-[b]->(x) RETURN y, x", "MATCH (x)-[r: a* 3]->(y)-[s: b+ SHORTEST]->(z) RETURN x, y, r", "MATCH (x), (y:B {p <> 1}) RETURN x", "MATCH (x)-[r: (a|^b)* 2]->(x), (x)-[a*]->(x) RETURN r, x", "MATCH (z)<-[a]-(y), (z)-[a.b]->(y), (y)-[b]->(x) RETURN z",
	} {
		q := read(t, s)
		f, _ := forest.Of(q)
		for range 8 {
			g := random(r, 1+r.Intn(4), r.Intn(12))
			p, code := Of(g, q, 100)
			want := plainOf(t, g, q)
			if code != api.OK || !Good(f, p) || !Same(p, want) {
				t.Fatal(s, p, want)
			}
		}
	}
}

func TestOfErrors(t *testing.T) {
	good := random(rand.New(rand.NewSource(1)), 3, 3)
	bad := api.Graph{Nodes: []api.Node{{}}}
	cycle := read(t, "MATCH (x)-[a]->(y)-[a]->(z)-[a]->(x) RETURN x")
	two := read(t, "MATCH (x)-[a.b]->(y)-["+strings.Repeat("a.", 10)+"a]->(z) RETURN x")
	cases := []struct {
		g    api.Graph
		q    api.Query
		most int
		code api.Errno
	}{
		{bad, api.Query{}, 0, api.ErrForm}, {api.Graph{Edges: []api.Edge{{Label: "a"}}}, cycle, 0, api.ErrArg}, {good, cycle, 0, api.ErrCycle}, {good, read(t, "MATCH (x) RETURN x, x"), 0, api.ErrDup}, {good, read(t, "MATCH (x) RETURN z"), 0, api.ErrScope}, {good, two, 0, api.ErrArg}, {good, two, 11, api.ErrCells}, {good, two, 12, api.OK}, {good, read(t, "MATCH (x)-[a]->(y) RETURN x"), 0, api.OK},
	}
	for i, x := range cases {
		p, code := Of(x.g, x.q, x.most)
		if code != x.code || code != api.OK && !Same(p, api.Parts{}) {
			t.Error(i, code)
		}
	}
}

func TestGoodOwnSameSize(t *testing.T) {
	q := read(t, "MATCH (x)-[a]->(y) RETURN x")
	f, _ := forest.Of(q)
	some := func() api.Parts {
		node := func(n int) api.Link { return api.Link{A: n, B: n, N: 1} }
		return api.Parts{Nodes: [][]api.Link{{node(0), node(1)}, {node(1)}}, Links: [][]api.Link{nil, {{A: 0, B: 1, Cost: 3, N: 1}}}}
	}
	if !Good(f, some()) || Size(some()) != 4 || !Good(api.Forest{}, api.Parts{}) || Size(api.Parts{}) != 0 {
		t.Error("good")
	}
	bad := []func(p *api.Parts){
		func(p *api.Parts) { p.Nodes = p.Nodes[:1] },
		func(p *api.Parts) { p.Links = append(p.Links, nil) },
		func(p *api.Parts) { p.Nodes[0][0].B = 1 },
		func(p *api.Parts) { p.Nodes[1][0].N = 0 },
		func(p *api.Parts) { p.Links[1][0].Cost = -1 },
		func(p *api.Parts) { p.Links[0] = p.Links[1] },
		func(p *api.Parts) { p.Nodes[0][0], p.Nodes[0][1] = p.Nodes[0][1], p.Nodes[0][0] },
	}
	for i, change := range bad {
		p := some()
		own := Own(p)
		change(&own)
		if Good(f, own) || Same(p, own) || !Same(p, some()) {
			t.Error(i)
		}
	}
	if Good(api.Forest{Vars: []string{"x"}}, api.Parts{Nodes: make([][]api.Link, 1), Links: make([][]api.Link, 1)}) {
		t.Error("forest")
	}
	if !Same(api.Parts{Nodes: [][]api.Link{nil}}, api.Parts{Nodes: [][]api.Link{{}}, Links: [][]api.Link{}}) {
		t.Error("nil and empty")
	}
}
