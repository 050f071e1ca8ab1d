package engine_test

import (
	"cmp"
	"math"
	"math/rand"
	"slices"
	"strings"
	"testing"

	"bridleway/api"
	"bridleway/costs"
	"bridleway/csr"
	"bridleway/cursor"
	"bridleway/each"
	. "bridleway/engine"
	"bridleway/mark"
	"bridleway/parse"
	"bridleway/paths"
	"bridleway/plan"
	"bridleway/query"
	"bridleway/scope"
	"bridleway/varint"
)

var wide = api.Limits{States: 100, Cells: api.MaxCells}

func random(r *rand.Rand, nodes, edges int) api.Graph {
	var g api.Graph
	for range nodes {
		n := api.Node{Label: []string{"A", "B"}[r.Intn(2)]}
		if r.Intn(2) == 0 {
			n.Props = []api.Prop{{Name: "p", Value: api.Value{Kind: api.VInt, Int: r.Intn(3)}}}
		}
		g.Nodes = append(g.Nodes, n)
	}
	for range edges {
		g.Edges = append(g.Edges, api.Edge{From: r.Intn(nodes), To: r.Intn(nodes), Label: []string{"a", "b"}[r.Intn(2)], Weight: r.Intn(5)})
	}
	return g
}

func read(t *testing.T, text string) api.Query {
	t.Helper()
	q, _, code := parse.Parse(text)
	if code != api.OK {
		t.Fatal(text, code)
	}
	return q
}

func open(t *testing.T, g api.Graph, text string) *Engine {
	t.Helper()
	e, at, code := New(g, text, wide)
	if code != api.OK || at != 0 {
		t.Fatal(text, at, code)
	}
	return e
}

// answers is all answers, Skip and Limit not looked at: row by row of the plan, with each choice of rows of hops.
func answers(t *testing.T, g api.Graph, text string) []api.Answer {
	t.Helper()
	p, _, code := plan.New(g, text, wide)
	if code != api.OK {
		t.Fatal(text, code)
	}
	c, _ := csr.New(g)
	q := p.Query()
	columns := p.Columns()
	var all []api.Answer
	for _, row := range each.All(p.Tree(), math.MaxInt) {
		nodes := p.Nodes(row)
		some := []api.Answer{{Nodes: nodes, Cost: row.Cost + p.Base()}}
		for _, i := range scope.Rows(q) {
			from := nodes[slices.Index(columns, q.Paths[i].From)]
			rows, _ := paths.New(c, q.Paths[i], nodes[slices.Index(columns, q.Paths[i].To)], 100)
			var more []api.Answer
			for _, a := range some {
				for k := range rows.Count(from) {
					hops, _ := rows.At(from, k)
					more = append(more, api.Answer{Nodes: nodes, Cost: a.Cost, Rows: append(slices.Clone(a.Rows), hops)})
				}
			}
			some = more
		}
		all = append(all, some...)
	}
	if q.Cost {
		slices.SortStableFunc(all, func(x, y api.Answer) int { return cmp.Compare(x.Cost, y.Cost) })
	}
	return all
}

func cut(all []api.Answer, q api.Query) []api.Answer {
	all = all[min(len(all), max(0, q.Skip)):]
	if q.Limit >= 0 {
		all = all[:min(len(all), q.Limit)]
	}
	return all
}

// tell is all answers of pages of random sizes, one behind the other.
func tell(t *testing.T, r *rand.Rand, e *Engine) []api.Answer {
	t.Helper()
	var all []api.Answer
	token := ""
	for pages := 0; ; pages++ {
		n := r.Intn(4)
		l, next, code := e.Page(token, n)
		again, same, _ := e.Page(token, n)
		if code != api.OK || len(l) > n || !slices.EqualFunc(l, again, Same) || next != same {
			t.Fatal(l, code)
		}
		all = append(all, l...)
		if next == "" {
			return all
		}
		if len(l) < n || n == 0 && pages > 0 && next != token {
			t.Fatal(n, l)
		}
		token = next
	}
}

var texts = []string{
	"MATCH (x)-[a]->(y) RETURN y, x", "MATCH (x)-[a]->(y)-[a]->(z) RETURN x, z SKIP 2", "MATCH (x)-[r: (a|b)+ 2]->(y) RETURN x, r, y LIMIT 5", "MATCH (x)-[r: a* 2]->(y)-[s: (a|^b)+ SHORTEST]->(z) RETURN z, s, y, r, x SKIP 1 LIMIT 30", "MATCH (x)-[r: a* 2]->(y), (x)-[a]->(z)-[b]->(w) RETURN x, y, r, w", "MATCH (x)-[a]->(y)-[b*]->(z) RETURN x, y ORDER BY COST", "MATCH (x)-[a]->(y)-[b*]->(z) RETURN x, z ORDER BY COST SKIP 1 LIMIT 4", "MATCH (x:A), (y)-[b|a]->(z), (w {p > 0}) RETURN w, x ORDER BY COST SKIP 2", "MATCH (x) RETURN x SKIP 0 LIMIT 0", "MATCH (x) RETURN x ORDER BY COST LIMIT 0", "MATCH (x) RETURN x SKIP 1000000000", "MATCH (x) RETURN x ORDER BY COST SKIP 1000000000",
}

func TestPagesTellAllAnswers(t *testing.T) {
	r := rand.New(rand.NewSource(40))
	some := 0
	for _, text := range texts {
		q := read(t, text)
		for range 20 {
			g := random(r, 1+r.Intn(4), r.Intn(9))
			all := answers(t, g, text)
			e := open(t, g, text)
			want := cut(all, q)
			if got := tell(t, r, e); !slices.EqualFunc(got, want, Same) {
				t.Fatal(text, got, want)
			}
			whole, token, code := e.Page("", 1000)
			if code != api.OK || len(want) <= 1000 && (token != "" || !slices.EqualFunc(whole, want, Same)) {
				t.Fatal(text, token, code)
			}
			if n, fewer := e.Count(); n != uint64(len(all)) || !fewer {
				t.Fatal(text, n)
			}
			if n, ok := e.Told(); n != uint64(len(want)) || !ok {
				t.Fatal(text, n)
			}
			if !q.Cost {
				checkAt(t, e, all, want, q)
			}
			some += len(want)
		}
	}
	if some < 500 {
		t.Error(some)
	}
}

func checkAt(t *testing.T, e *Engine, all, want []api.Answer, q api.Query) {
	t.Helper()
	for k, a := range want {
		if got, code := e.At(uint64(k)); !Same(got, a) || code != api.OK {
			t.Fatal(k, got, a)
		}
		if got, code := e.Rank(a); got != uint64(k) || code != api.OK {
			t.Fatal(k, got, code)
		}
		worse := []api.Answer{{Nodes: a.Nodes, Rows: a.Rows, Cost: a.Cost + 1}, {Nodes: a.Nodes, Rows: append(slices.Clone(a.Rows), nil), Cost: a.Cost}, {Nodes: append(slices.Clone(a.Nodes), 0), Rows: a.Rows, Cost: a.Cost}}
		if len(a.Rows) > 0 {
			bad := slices.Clone(a.Rows)
			bad[0] = append(slices.Clone(bad[0]), api.Hop{Edge: 99})
			worse = append(worse, api.Answer{Nodes: a.Nodes, Rows: bad, Cost: a.Cost})
		}
		for _, a := range worse {
			if got, code := e.Rank(a); got != 0 || code != api.ErrNone {
				t.Fatal(a, got, code)
			}
		}
	}
	for _, k := range []uint64{uint64(len(want)), math.MaxUint64, api.Most} {
		if a, code := e.At(k); !Same(a, api.Answer{}) || code != api.ErrNone {
			t.Fatal(k, a, code)
		}
	}
	for k, a := range all {
		if k < q.Skip || q.Limit >= 0 && k >= max(0, q.Skip)+q.Limit {
			if got, code := e.Rank(a); got != 0 || code != api.ErrNone {
				t.Fatal(k, got, code)
			}
		}
	}
}

func TestExample(t *testing.T) {
	g := api.Graph{Nodes: []api.Node{{Label: "A"}, {Label: "A"}}, Edges: []api.Edge{{From: 0, To: 1, Label: "a", Weight: 3}}}
	e := open(t, g, "MATCH (x)-[a]->(y) RETURN y, x")
	l, token, code := e.Page("", 5)
	if len(l) != 1 || !Same(l[0], api.Answer{Nodes: []int{0, 1}, Cost: 3}) || token != "" || code != api.OK || !slices.Equal(e.Cells(l[0]), []string{"1", "0"}) || !slices.Equal(e.Names(), []string{"y", "x"}) {
		t.Error(l, token, code)
	}
	_, token, _ = e.Page("", 0)
	if token != "\x01\x00\x00\x00\x00" {
		t.Errorf("%x", token)
	}
}

// line is n nodes in a row, each linked to the next one.
func line(n int) api.Graph {
	g := api.Graph{Nodes: slices.Repeat([]api.Node{{Label: "A"}}, n)}
	for i := range n - 1 {
		g.Edges = append(g.Edges, api.Edge{From: i, To: i + 1, Label: "a", Weight: i})
	}
	return g
}

func TestTokensInOrder(t *testing.T) {
	e := open(t, line(4), "MATCH (x) RETURN x SKIP 1 LIMIT 2")
	put := func(m api.Mark) string {
		s, _ := cursor.Put(m)
		return s
	}
	_, token, _ := e.Page("", 0)
	if token != put(api.Mark{Nodes: []int{0}}) {
		t.Errorf("%x", token)
	}
	l, token, _ := e.Page("", 1)
	if token != put(api.Mark{Told: 1, Nodes: []int{1}}) || l[0].Nodes[0] != 1 {
		t.Errorf("%x", token)
	}
	l, next, _ := e.Page(token, 9)
	if len(l) != 1 || l[0].Nodes[0] != 2 || next != "" {
		t.Error(l, next)
	}
	// Start stands ahead of all: nothing is passed over behind a token.
	l, _, _ = e.Page(put(cursor.Start()), 9)
	if len(l) != 2 || l[0].Nodes[0] != 0 {
		t.Error(l)
	}
	for _, m := range []api.Mark{{Over: true}, {Told: 2}, {Told: 1 << 53, Nodes: []int{1}}, {Nodes: []int{3}}} {
		if l, next, code := e.Page(put(m), 9); len(l) != 0 || next != "" || code != api.OK {
			t.Error(m, l, code)
		}
	}
	for _, bad := range []string{"x", put(api.Mark{Nodes: []int{4}}), put(api.Mark{Nodes: []int{0, 0}}), put(api.Mark{Nodes: []int{0}, Rest: 1}), "\x02\x00\x01\x00\x00", put(api.Mark{}) + "\x00"} {
		if l, next, code := e.Page(bad, 9); l != nil || next != "" || code != api.ErrToken {
			t.Errorf("%x %v", bad, code)
		}
	}
	free := open(t, line(4), "MATCH (x) RETURN x")
	l, next, _ = free.Page(put(api.Mark{Told: 1 << 53, Nodes: []int{0}}), 1)
	if len(l) != 1 || next != put(api.Mark{Told: 1 << 53, Nodes: []int{1}}) {
		t.Error(l)
	}
}

func TestTokensByCost(t *testing.T) {
	text := "MATCH (x), (y)-[a]->(z) RETURN x, y ORDER BY COST"
	e := open(t, line(4), text)
	p, _, _ := plan.New(line(4), text, wide)
	c := costs.New(p.Tree())
	put := func(m api.Mark) string {
		s, code := mark.Put(c, m)
		if code != api.OK {
			t.Fatal(m, code)
		}
		return s
	}
	_, token, _ := e.Page("", 0)
	if token != put(mark.Start(c)) {
		t.Errorf("%x", token)
	}
	m := mark.Start(c)
	for range 5 {
		_, m, _ = mark.Next(c, m)
	}
	_, token, _ = e.Page("", 5)
	if token != put(m) {
		t.Errorf("%x", token)
	}
	if l, next, code := e.Page(put(api.Mark{Over: true, Told: 3}), 5); len(l) != 0 || next != "" || code != api.OK {
		t.Error(l, code)
	}
	for _, bad := range []string{"x", "\x01\x00\x00\x00\x00", "\x02\x00\x01\x00\x09", token + "\x00"} {
		if l, next, code := e.Page(bad, 5); l != nil || next != "" || code != api.ErrToken {
			t.Errorf("%x %v", bad, code)
		}
	}
	// Both items stand for the same rows: when the first one goes, it brings the second one once more.
	first, _ := mark.Item(c, 0)
	second, _ := mark.Item(c, 1)
	forged := put(api.Mark{Items: []api.Item{first, second}})
	if l, next, code := e.Page(forged, 1); l != nil || next != "" || code != api.ErrToken {
		t.Errorf("%v %x %v", l, next, code)
	}
	if l, next, code := e.Page(forged, 999); len(l) != 12+9 || next != "" || code != api.OK {
		t.Error(len(l), code)
	}
}

// manyItems is 5000 nodes; x may be each of them at no cost, y each at a cost of its own: each answer that is told leaves one item waiting.
func manyItems() api.Graph {
	g := api.Graph{Nodes: slices.Repeat([]api.Node{{Label: "A"}}, 5000)}
	for i := range 5000 {
		g.Edges = append(g.Edges, api.Edge{From: i, To: i, Label: "a"}, api.Edge{From: i, To: i, Label: "b", Weight: i})
	}
	g.Nodes[4999].Label = "B"
	return g
}

func TestTooManyItems(t *testing.T) {
	g := manyItems()
	text := "MATCH (x)-[a]->(x), (y)-[b]->(y) RETURN x, y ORDER BY COST SKIP "
	l, token, code := open(t, g, text+"3998").Page("", 1)
	if len(l) != 1 || !slices.Equal(l[0].Nodes, []int{3998, 0}) || token == "" || code != api.OK {
		t.Error(l, code)
	}
	if l, token, code := open(t, g, text+"3998").Page(token, 1); l != nil || token != "" || code != api.ErrFull {
		t.Error(l, code)
	}
	for _, skip := range []string{"3998 LIMIT 2", "4000", "1000000000"} {
		if l, token, code := open(t, g, text+skip).Page("", 2); l != nil || token != "" || code != api.ErrFull {
			t.Error(skip, code)
		}
	}
	if l, token, code := open(t, g, text+"3999").Page("", 0); l != nil || token == "" || code != api.OK {
		t.Error(code)
	}
}

func TestTooLongAToken(t *testing.T) {
	// Ten places ahead of y, each with a number of two bytes: an item has 24 bytes.
	places := ""
	for i := range 10 {
		places += ", (v" + string(rune('a'+i)) + ":B)"
	}
	e := open(t, manyItems(), "MATCH (x)-[a]->(x)"+places+", (y)-[b]->(y) RETURN x, y, va, vb, vc, vd, ve, vf, vg, vh, vi, vj ORDER BY COST SKIP 2500")
	l, token, code := e.Page("", 100)
	if len(l) != 100 || len(token) < 60000 || len(token) > api.MaxToken || code != api.OK {
		t.Error(len(l), len(token), code)
	}
	if l, token, code := e.Page(token, 200); l != nil || token != "" || code != api.ErrFull {
		t.Error(len(l), code)
	}
}

func TestAsLongATokenAsMayBe(t *testing.T) {
	// x may be 2731 nodes, small of which have numbers of one byte: an item has 24 bytes, or 23.
	for small, want := range map[int]api.Errno{12: api.OK, 11: api.ErrFull} {
		g := manyItems()
		g.Edges = []api.Edge{{Label: "b"}, {From: 1, To: 1, Label: "b", Weight: 1}}
		for i := range 2731 {
			if i >= small {
				i += 128
			}
			g.Edges = append(g.Edges, api.Edge{From: i, To: i, Label: "a"})
		}
		places, names := "", ""
		for i := range 10 {
			places += ", (v" + string(rune('a'+i)) + ":B)"
			names += ", v" + string(rune('a'+i))
		}
		e := open(t, g, "MATCH (x)-[a]->(x)"+places+", (y)-[b]->(y) RETURN x, y"+names+" ORDER BY COST SKIP 2731")
		_, token, code := e.Page("", 0)
		if code != want || code == api.OK && len(token) != api.MaxToken {
			t.Error(small, len(token), code)
		}
	}
}

func TestFirstMost(t *testing.T) {
	g := api.Graph{Nodes: []api.Node{{Label: "A"}}}
	for range 8 {
		g.Edges = append(g.Edges, api.Edge{Label: "a"})
	}
	e := open(t, g, "MATCH (x)-[r: a* 30]->(x)-[s: a* 30]->(x) RETURN r, s, x SKIP 3")
	if n, fewer := e.Count(); n != api.Most || fewer {
		t.Error(n)
	}
	if n, ok := e.Told(); n != 0 || ok {
		t.Error(n)
	}
	a, code := e.At(28)
	if code != api.OK || len(a.Rows[0]) != 0 || len(a.Rows[1]) != 30 || a.Rows[1][29].Edge != 1 {
		t.Error(a, code)
	}
	if k, code := e.Rank(a); k != 0 || code != api.ErrFull {
		t.Error(k, code)
	}
	if _, code := e.At(api.Most - 4); code != api.OK {
		t.Error(code)
	}
	if _, code := e.At(api.Most - 3); code != api.ErrNone {
		t.Error(code)
	}
	last, _ := cursor.Put(api.Mark{Told: 5, Nodes: []int{0}, Rest: api.Most - 2})
	if l, token, code := e.Page(last, 5); len(l) != 1 || token != "" || code != api.OK {
		t.Error(len(l), code)
	}
	limited := open(t, g, "MATCH (x)-[r: a* 30]->(x)-[s: a* 30]->(x) RETURN r, s, x SKIP 3 LIMIT 7")
	if n, ok := limited.Told(); n != 7 || !ok {
		t.Error(n)
	}
}

func TestCountQueriesAndErrors(t *testing.T) {
	g := line(3)
	e := open(t, g, "MATCH (x)-[a]->(y) RETURN x COUNT")
	if n, ok := e.Told(); n != 2 || !ok {
		t.Error(n)
	}
	for _, e := range []*Engine{e, open(t, g, "MATCH (x) RETURN x ORDER BY COST")} {
		a, code := e.At(99)
		k, code2 := e.Rank(api.Answer{})
		if !Same(a, api.Answer{}) || k != 0 || code != api.ErrState || code2 != api.ErrState {
			t.Error(code, code2)
		}
	}
	if l, token, code := e.Page("x", 5); l != nil || token != "" || code != api.ErrState {
		t.Error(code)
	}
	for _, n := range []int{-1, 1001, math.MaxInt} {
		if l, token, code := e.Page("x", n); l != nil || token != "" || code != api.ErrArg {
			t.Error(code)
		}
	}
	for _, x := range []struct {
		text string
		at   int
		code api.Errno
	}{{"MATCH (x", 8, api.ErrEnd}, {"MATCH (x) RETURN y", 0, api.ErrScope}} {
		if e, at, code := New(g, x.text, wide); e != nil || at != x.at || code != x.code {
			t.Error(at, code)
		}
	}
	if _, at, code := New(api.Graph{Nodes: make([]api.Node, 1)}, "", wide); at != 1 || code != api.ErrForm {
		t.Error(at, code)
	}
}

func TestCells(t *testing.T) {
	g := line(3)
	e := open(t, g, "MATCH (x)-[r: (a|^a)+ 2]->(y) RETURN r, y, x")
	a := api.Answer{Nodes: []int{-5, 7}, Rows: [][]api.Hop{{{Edge: 1}, {Edge: 0, Back: true}}}}
	if got := e.Cells(a); !slices.Equal(got, []string{"+1 -0", "7", "-5"}) {
		t.Error(got)
	}
	if got := e.Cells(api.Answer{Nodes: []int{3}}); !slices.Equal(got, []string{"", "", "3"}) {
		t.Error(got)
	}
	a.Nodes = append(a.Nodes, 8, 9)
	if got := e.Cells(a); !slices.Equal(got, []string{"+1 -0", "7", "-5"}) {
		t.Error(got)
	}
	if l := e.Explain(); len(l) != 6 || l[2] != "way tree" {
		t.Error(l)
	}
}

func TestNilAndSame(t *testing.T) {
	var e *Engine
	n, ok := e.Count()
	k, ok2 := e.Told()
	l, token, code := e.Page("", 1)
	a, code2 := e.At(0)
	r, code3 := e.Rank(api.Answer{})
	if n+k+r != 0 || ok || ok2 || l != nil || token != "" || code != api.ErrArg || code2 != api.ErrArg || code3 != api.ErrArg || !Same(a, api.Answer{}) || len(e.Names())+len(e.Cells(a))+len(e.Explain()) != 0 {
		t.Error("nil")
	}
	b := api.Answer{Nodes: []int{1}, Rows: [][]api.Hop{{{Edge: 1}}}, Cost: 2}
	for _, c := range []api.Answer{{Nodes: []int{2}, Rows: b.Rows, Cost: 2}, {Nodes: b.Nodes, Rows: [][]api.Hop{{{Edge: 1, Back: true}}}, Cost: 2}, {Nodes: b.Nodes, Rows: b.Rows, Cost: 3}, {Nodes: b.Nodes, Cost: 2}} {
		if Same(b, c) {
			t.Error(c)
		}
	}
	if !Same(api.Answer{Rows: [][]api.Hop{nil}}, api.Answer{Rows: [][]api.Hop{{}}, Nodes: []int{}}) {
		t.Error("nil and empty")
	}
}

// P5: any bytes tell ErrToken, or answers that there are.
func TestAnyToken(t *testing.T) {
	r := rand.New(rand.NewSource(42))
	g := random(r, 4, 9)
	for _, text := range texts[:8] {
		all := answers(t, g, text)
		e := open(t, g, text)
		cost := read(t, text).Cost
		_, token, _ := e.Page("", 2)
		for range 2000 {
			forged := []byte(token)
			if r.Intn(2) == 0 {
				forged = []byte(varint.Put(1, uint64(r.Intn(3)), uint64(r.Intn(2)), uint64(r.Intn(3))))
			}
			for range r.Intn(6) {
				forged = append(forged, byte(r.Intn(5)))
			}
			if len(forged) > 0 {
				forged[r.Intn(len(forged))] = byte(r.Intn(5))
			}
			l, _, code := e.Page(string(forged), r.Intn(5))
			if code != api.OK && code != api.ErrToken {
				t.Fatal(code)
			}
			last := -1
			for _, a := range l {
				i := slices.IndexFunc(all, func(b api.Answer) bool { return Same(a, b) })
				if i < 0 || !cost && i <= last || cost && last >= 0 && a.Cost < all[last].Cost {
					t.Fatal(text, a)
				}
				last = i
			}
		}
	}
}

// P7: the way all edges are laid, if the steps are turned, too, changes no answer; nor does another order of Return.
func TestWhatMeansNothing(t *testing.T) {
	r := rand.New(rand.NewSource(43))
	back := strings.NewReplacer("a", "^a", "b", "^b")
	for _, text := range []string{"(x)-[a]->(y)-[b.a*]->(z)", "(x)-[(a|b)+]->(y), (y)-[a]->(z)"} {
		for range 20 {
			g := random(r, 4, 8)
			turned := api.Graph{Nodes: g.Nodes}
			for _, e := range g.Edges {
				e.From, e.To = e.To, e.From
				turned.Edges = append(turned.Edges, e)
			}
			one, _, _ := open(t, g, "MATCH "+text+" RETURN x, y, z").Page("", 1000)
			two, _, _ := open(t, turned, "MATCH "+back.Replace(text)+" RETURN z, x, y").Page("", 1000)
			if !slices.EqualFunc(one, two, Same) {
				t.Fatal(one, two)
			}
			more := g
			more.Edges = append(slices.Clone(g.Edges), api.Edge{From: r.Intn(4), To: r.Intn(4), Label: "a"})
			three, _, _ := open(t, more, "MATCH "+text+" RETURN x, y, z").Page("", 1000)
			for _, a := range one {
				if !slices.ContainsFunc(three, func(b api.Answer) bool { return slices.Equal(a.Nodes, b.Nodes) && b.Cost <= a.Cost }) {
					t.Fatal(a, three)
				}
			}
		}
	}
	if !query.Good(read(t, "MATCH (x) RETURN x")) {
		t.Error("good")
	}
}
