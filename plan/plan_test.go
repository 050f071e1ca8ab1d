package plan_test

import (
	"math"
	"math/rand"
	"slices"
	"strconv"
	"strings"
	"testing"

	"bridleway/api"
	"bridleway/connex"
	"bridleway/csr"
	"bridleway/domain"
	"bridleway/each"
	"bridleway/graph"
	"bridleway/parse"
	. "bridleway/plan"
	"bridleway/query"
	"bridleway/scope"
	"bridleway/test"
)

var wide = api.Limits{States: 100, Cells: api.MaxCells}

func random(r *rand.Rand, nodes, edges int) api.Graph {
	var g api.Graph
	for range nodes {
		n := api.Node{Label: []string{"A", "B"}[r.Intn(2)]}
		if r.Intn(2) == 0 {
			n.Props = []api.Prop{{Name: "p", Value: api.Value{Kind: api.VInt, Int: r.Intn(3)}}}
		}
		g.Nodes = append(g.Nodes, n)
	}
	for range edges {
		g.Edges = append(g.Edges, api.Edge{From: r.Intn(nodes), To: r.Intn(nodes), Label: []string{"a", "b"}[r.Intn(2)], Weight: r.Intn(5)})
	}
	return g
}

// rowsOf is the rows that a plan must have, by trying all nodes for all variables.
func rowsOf(t *testing.T, g api.Graph, q api.Query) []api.Row {
	t.Helper()
	c, _ := csr.New(g)
	vars := query.Vars(q)
	leads := make([]map[[2]int]api.Link, len(q.Paths))
	for i, p := range q.Paths {
		l, code := domain.Links(c, p, slices.Contains(scope.Rows(q), i), 100)
		if code != api.OK {
			t.Fatal(code)
		}
		leads[i] = map[[2]int]api.Link{}
		for _, x := range l {
			leads[i][[2]int{x.A, x.B}] = x
		}
	}
	columns, _ := connex.Columns(q)
	free := columns[:len(scope.Free(q))]
	var found []api.Row
	all := [][]int{nil}
	for range vars {
		var longer [][]int
		for _, row := range all {
			for n := range g.Nodes {
				longer = append(longer, append(slices.Clone(row), n))
			}
		}
		all = longer
	}
	for _, nodes := range all {
		row, ok := fit(g, q, vars, nodes, leads)
		if !ok {
			continue
		}
		for _, v := range free {
			row.Nodes = append(row.Nodes, nodes[slices.Index(vars, v)])
		}
		found = append(found, row)
	}
	slices.SortFunc(found, func(x, y api.Row) int {
		if c := slices.Compare(x.Nodes, y.Nodes); c != 0 {
			return c
		}
		return x.Cost - y.Cost
	})
	return slices.CompactFunc(found, func(x, y api.Row) bool { return slices.Equal(x.Nodes, y.Nodes) })
}

func fit(g api.Graph, q api.Query, vars []string, nodes []int, leads []map[[2]int]api.Link) (api.Row, bool) {
	row := api.Row{N: 1}
	for i, v := range vars {
		if !test.Fits(g, nodes[i], q, v) {
			return row, false
		}
	}
	for i, p := range q.Paths {
		x, ok := leads[i][[2]int{nodes[slices.Index(vars, p.From)], nodes[slices.Index(vars, p.To)]}]
		if !ok {
			return row, false
		}
		row.Cost += x.Cost
		row.N *= x.N
	}
	return row, true
}

func checkPlan(t *testing.T, g api.Graph, text string) bool {
	t.Helper()
	q, _, code := parse.Parse(text)
	if code != api.OK {
		t.Fatal(text, code)
	}
	p, at, code := New(g, text, wide)
	if is, want := connex.Is(q); want != api.OK {
		if p != nil || at != 0 || code != want {
			t.Fatal(text, code)
		}
		return false
	} else if code != api.OK || at != 0 || p.Connex() != is {
		t.Fatal(text, at, code)
	}
	want := rowsOf(t, g, q)
	got := each.All(p.Tree(), math.MaxInt)
	if len(got) != len(want) {
		t.Fatal(text, got, want)
	}
	for k, row := range got {
		if !slices.Equal(p.Nodes(row), want[k].Nodes) || row.Cost+p.Base() != want[k].Cost || row.N != want[k].N {
			s, _ := graph.Print(g)
			t.Fatal(s, text, k, row, p.Base(), want[k])
		}
		if !p.Connex() && (!slices.Equal(row.Nodes, []int{k}) || p.Base() != 0 || p.Tree().Len() != 1) {
			t.Fatal(text, row)
		}
		if p.Connex() && !slices.Equal(row.Nodes, p.Nodes(row)) {
			t.Fatal(text, row)
		}
	}
	columns, _ := connex.Columns(q)
	if !slices.Equal(p.Columns(), columns) || p.Wide() != len(scope.Free(q)) || !query.Same(p.Query(), q) {
		t.Fatal(text)
	}
	return len(want) > 0
}

func TestQueries(t *testing.T) {
	r := rand.New(rand.NewSource(39))
	some := 0
	for _, text := range []string{
		"MATCH (x)-[a]->(y)-[a]->(z) RETURN x, z", "MATCH (x)-[a]->(y)-[a]->(z) RETURN y", "MATCH (x)-[a]->(y)-[b*]->(z) RETURN y, x ORDER BY COST", "MATCH (x:A), (y)-[b]->(z) RETURN x, z", "MATCH (x:A), (y)-[b|a]->(z) RETURN x", "MATCH (x)-[r: a* 3]->(y)-[a]->(z) RETURN x, r, y", "MATCH (x)-[r: a* 3]->(y)-[s: b SHORTEST]->(z) RETURN z, y, s", "MATCH (x)-[r: a+ 2]->(x)-[b]->(y) RETURN r, x", "MATCH (x)-[r: a+ 2]->(y)-[a]->(z)-[b]->(w) RETURN x, y, r, w", "MATCH (x {p > 0})-[a.b]->(y)<-[b]-(x), (y)-[^a]->(z) RETURN y, z COUNT",
	} {
		for range 25 {
			if checkPlan(t, random(r, 1+r.Intn(4), r.Intn(12)), text) {
				some++
			}
		}
	}
	if some < 50 {
		t.Error(some)
	}
}

func TestRandomQueries(t *testing.T) {
	r := rand.New(rand.NewSource(40))
	some := 0
	for range 600 {
		n := 1 + r.Intn(4)
		var items, told []string
		for i := range n {
			items = append(items, "(v"+strconv.Itoa(i)+[]string{"", ":A", " {p > 0}"}[r.Intn(3)]+")")
			if r.Intn(2) == 0 {
				told = append(told, "v"+strconv.Itoa(i))
			}
		}
		for i := range r.Intn(n + 1) {
			from, to := "v"+strconv.Itoa(r.Intn(n)), "v"+strconv.Itoa(r.Intn(n))
			inside := []string{"a", "^b", "a*", "(a|b).a?"}[r.Intn(4)]
			if r.Intn(3) == 0 {
				name := "r" + strconv.Itoa(i)
				inside = name + ": " + inside + []string{" 2", " SHORTEST"}[r.Intn(2)]
				if slices.Contains(told, from) && slices.Contains(told, to) && r.Intn(2) == 0 {
					told = append(told, name)
				}
			}
			items = append(items, "("+from+")-["+inside+"]->("+to+")")
		}
		if len(told) > 0 && checkPlan(t, random(r, 1+r.Intn(3), r.Intn(9)), "MATCH "+strings.Join(items, ", ")+" RETURN "+strings.Join(told, ", ")) {
			some++
		}
	}
	if some < 50 {
		t.Error(some)
	}
}

func TestStepsBetweenRows(t *testing.T) {
	r := rand.New(rand.NewSource(41))
	for _, text := range []string{"MATCH (x)-[a]->(y), (x)-[b]->(z), (w) RETURN x, y, z, w", "MATCH (x)-[a]->(y)-[a]->(z) RETURN x, z"} {
		g := random(r, 30, 100)
		p, _, _ := New(g, text, wide)
		bound, _ := connex.Bound(p.Query())
		w := each.New(p.Tree())
		for last := 0; ; last = w.Steps() {
			_, ok := w.Next()
			if w.Steps()-last > bound {
				t.Fatal(w.Steps() - last)
			}
			if !ok {
				break
			}
		}
	}
}

func TestExplain(t *testing.T) {
	g := api.Graph{Nodes: []api.Node{{Label: "A"}, {Label: "A"}, {Label: "B"}}, Edges: []api.Edge{{From: 0, To: 1, Label: "a"}, {From: 1, To: 2, Label: "a"}, {From: 0, To: 2, Label: "a"}}}
	p, _, _ := New(g, "MATCH (y)<-[a]-(x)-[r: a 2]->(z),(k:B) RETURN r,z,x , y", wide)
	want := []string{"query MATCH (y), (x), (z), (k:B), (x)-[a]->(y), (x)-[r: a 2]->(z) RETURN r, z, x, y", "columns y, x, z, r", "way tree", "place 0 -1", "place 1 0", "place 2 1", "size 8"}
	if !slices.Equal(p.Explain(), want) {
		t.Error(p.Explain())
	}
	p, _, _ = New(g, "MATCH (x)-[a]->(y)-[a]->(z) RETURN x, z", wide)
	want = []string{"query MATCH (x), (y), (z), (x)-[a]->(y), (y)-[a]->(z) RETURN x, z", "columns x, z", "way table", "place 0 -1", "size 1"}
	if !slices.Equal(p.Explain(), want) {
		t.Error(p.Explain())
	}
}

func TestFirstError(t *testing.T) {
	bad := api.Graph{Nodes: []api.Node{{Label: "A"}, {}}}
	good := random(rand.New(rand.NewSource(1)), 3, 0)
	cases := []struct {
		g    api.Graph
		text string
		l    api.Limits
		at   int
		code api.Errno
	}{
		{bad, ";", api.Limits{}, 0, api.ErrArg}, {bad, ";", wide, 2, api.ErrForm}, {good, "MATCH ;", wide, 6, api.ErrForm}, {good, "MATCH (x)", wide, 9, api.ErrEnd}, {good, "MATCH (x) RETURN y", wide, 0, api.ErrScope}, {good, "MATCH (x)-[a]->(y)-[a]->(z)-[a.a]->(x) RETURN x", api.Limits{States: 1, Cells: 1}, 0, api.ErrCycle}, {good, "MATCH (x)-[a.a]->(y) RETURN x", api.Limits{States: 2, Cells: 1000}, 0, api.ErrCells}, {good, "MATCH (x)-[a.a]->(y) RETURN x", api.Limits{States: 3, Cells: 1000}, 0, api.OK},
		{good, "MATCH (x) RETURN x", api.Limits{States: 1, Cells: 2}, 0, api.ErrCells}, {good, "MATCH (x) RETURN x", api.Limits{States: 1, Cells: 3}, 0, api.OK},
	}
	for i, x := range cases {
		p, at, code := New(x.g, x.text, x.l)
		if at != x.at || code != x.code || (p == nil) != (code != api.OK) {
			t.Error(i, at, code)
		}
	}
}

func TestLimits(t *testing.T) {
	for _, l := range []api.Limits{{States: 1, Cells: 1}, {States: 1000, Cells: 1000000}} {
		if !Good(l) {
			t.Error(l)
		}
	}
	for _, l := range []api.Limits{{}, {States: 0, Cells: 1}, {States: 1001, Cells: 1}, {States: 1, Cells: 0}, {States: 1, Cells: 1000001}, {States: -1, Cells: -1}} {
		if Good(l) {
			t.Error(l)
		}
	}
	// 20 nodes that lead to 1 that leads to 20: 61 nodes and 40 links, and 400 rows.
	g := api.Graph{Nodes: slices.Repeat([]api.Node{{Label: "A"}}, 41)}
	for i := range 20 {
		g.Edges = append(g.Edges, api.Edge{From: i, To: 40, Label: "a"}, api.Edge{From: 40, To: 20 + i, Label: "b"})
	}
	text := "MATCH (x)-[a]->(y)-[b]->(z) RETURN x, z"
	if p, _, code := New(g, text, api.Limits{States: 1, Cells: 400}); code != api.OK || len(each.All(p.Tree(), 999)) != 400 {
		t.Error(code)
	}
	if _, at, code := New(g, text, api.Limits{States: 1, Cells: 399}); code != api.ErrCells || at != 0 {
		t.Error(code)
	}
	if _, _, code := New(g, "MATCH (x)-[a]->(y)-[b]->(z) RETURN x, y, z", api.Limits{States: 1, Cells: 163}); code != api.OK {
		t.Error(code)
	}
	if _, _, code := New(g, "MATCH (x)-[a]->(y)-[b]->(z) RETURN x, y, z", api.Limits{States: 1, Cells: 162}); code != api.ErrCells {
		t.Error(code)
	}
}

func TestATableOfAtMostAsManyRowsAsNodes(t *testing.T) {
	// 100 that lead to 1 that leads to 100, or to 101.
	for _, ends := range []int{100, 101} {
		g := api.Graph{Nodes: slices.Repeat([]api.Node{{Label: "A"}}, 1+100+ends)}
		for i := range 100 {
			g.Edges = append(g.Edges, api.Edge{From: 1 + i, Label: "a"})
		}
		for i := range ends {
			g.Edges = append(g.Edges, api.Edge{To: 101 + i, Label: "b"})
		}
		p, _, code := New(g, "MATCH (x)-[a]->(y)-[b]->(z) RETURN x, z", wide)
		if want := map[int]api.Errno{100: api.OK, 101: api.ErrCells}[ends]; code != want {
			t.Error(ends, code)
		}
		if ends == 100 {
			if last, ok := p.Tree().Row(9999); !ok || !slices.Equal(p.Nodes(last), []int{100, 200}) {
				t.Error(p.Nodes(last))
			}
		}
	}
}

func TestNilAndMemory(t *testing.T) {
	var p *Plan
	if len(p.Columns())+len(p.Explain())+len(p.Nodes(api.Row{}))+p.Wide()+p.Base() != 0 || p.Connex() || p.Tree() != nil || !query.Same(p.Query(), api.Query{}) {
		t.Error("nil")
	}
	g := random(rand.New(rand.NewSource(1)), 3, 9)
	p, _, _ = New(g, "MATCH (x)-[a]->(y)-[a]->(z) RETURN x, z", wide)
	for _, nodes := range [][]int{nil, {-1}, {9}, {0, 0}} {
		if p.Nodes(api.Row{Nodes: nodes}) != nil {
			t.Error(nodes)
		}
	}
	p.Columns()[0] = "q"
	p.Query().Return[0] = "q"
	if p.Columns()[0] != "x" || p.Query().Return[0] != "x" {
		t.Error("shared")
	}
	if row, ok := each.First(p.Tree()); ok {
		p.Nodes(row)[0] = 77
		if p.Nodes(row)[0] == 77 {
			t.Error("shared")
		}
	}
}
