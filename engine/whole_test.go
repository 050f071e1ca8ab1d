package engine_test

import (
	"cmp"
	"math/rand"
	"slices"
	"testing"

	"bridleway/access"
	"bridleway/api"
	"bridleway/connex"
	"bridleway/counts"
	"bridleway/each"
	. "bridleway/engine"
	"bridleway/graph"
	"bridleway/plan"
)

// These are the promises of the whole, P1 to P8, asked of the engine.

func all(t *testing.T, g api.Graph, text string) []api.Answer {
	t.Helper()
	l, token, code := open(t, g, text).Page("", api.MaxPage)
	if code != api.OK || token != "" {
		t.Fatal(text, code)
	}
	return l
}

// column is the place of a name among the columns.
func column(t *testing.T, text, name string) int {
	t.Helper()
	l, code := connex.Columns(read(t, text))
	if code != api.OK {
		t.Fatal(code)
	}
	return slices.Index(l, name)
}

// P1: one test more leaves just those of which it says so; one name less leaves what is left of the answers.
func TestWhatIsTrue(t *testing.T) {
	r := rand.New(rand.NewSource(50))
	for range 60 {
		g := random(r, 5, 12)
		plain := "MATCH (x)-[a]->(y)-[(a|b)+]->(z) RETURN x, y, z"
		answers := all(t, g, plain)
		x, y, z := column(t, plain, "x"), column(t, plain, "y"), column(t, plain, "z")
		tested := all(t, g, "MATCH (x)-[a]->(y {p >= 1})-[(a|b)+]->(z) RETURN x, y, z")
		want := slices.DeleteFunc(slices.Clone(answers), func(a api.Answer) bool {
			v := graph.Prop(g.Nodes[a.Nodes[y]], "p")
			return v.Kind == api.VNone || v.Int < 1
		})
		if !slices.EqualFunc(tested, want, Same) {
			t.Fatal(tested, want)
		}
		var left []api.Answer
		for _, a := range answers {
			left = append(left, api.Answer{Nodes: []int{a.Nodes[x], a.Nodes[z]}, Cost: a.Cost})
		}
		slices.SortFunc(left, func(a, b api.Answer) int {
			return cmp.Or(slices.Compare(a.Nodes, b.Nodes), cmp.Compare(a.Cost, b.Cost))
		})
		left = slices.CompactFunc(left, func(a, b api.Answer) bool { return slices.Equal(a.Nodes, b.Nodes) })
		if less := all(t, g, "MATCH (x)-[a]->(y)-[(a|b)+]->(z) RETURN z, x"); !slices.EqualFunc(less, left, Same) {
			t.Fatal(less, left)
		}
	}
}

// P2 and P3: each answer stands ahead of the next one; by cost the same are told, none cheaper than the one ahead, and with a limit the first ones.
func TestInOrderAndByCost(t *testing.T) {
	r := rand.New(rand.NewSource(51))
	for range 40 {
		g := random(r, 5, 14)
		text := "MATCH (x)-[a]->(y)-[b*]->(z), (w:A) RETURN w, z, y, x"
		inOrder := all(t, g, text+" LIMIT 900")
		if !slices.IsSortedFunc(inOrder, func(a, b api.Answer) int { return slices.Compare(a.Nodes, b.Nodes) }) {
			t.Fatal(inOrder)
		}
		byCost := all(t, g, text+" ORDER BY COST LIMIT 900")
		want := slices.Clone(inOrder)
		slices.SortStableFunc(want, func(a, b api.Answer) int { return cmp.Compare(a.Cost, b.Cost) })
		if !slices.EqualFunc(byCost, want, Same) {
			t.Fatal(byCost, want)
		}
		first := all(t, g, text+" ORDER BY COST SKIP 2 LIMIT 3")
		if !slices.EqualFunc(first, want[min(2, len(want)):min(5, len(want))], Same) {
			t.Fatal(first)
		}
	}
}

// P4: as many answers are counted as there are, and as many are said to be told as are told.
func TestCounted(t *testing.T) {
	r := rand.New(rand.NewSource(52))
	for range 40 {
		g := random(r, 4, 9)
		text := "MATCH (x)-[r: (a|b)+ 2]->(y)-[a]->(z) RETURN x, r, y"
		answers := all(t, g, text)
		for tail, want := range map[string]int{"": len(answers), " SKIP 2": max(0, len(answers)-2), " LIMIT 3": min(3, len(answers)), " SKIP 2 LIMIT 3": min(3, max(0, len(answers)-2)), " COUNT": len(answers)} {
			e := open(t, g, text+tail)
			n, fewer := e.Count()
			told, ok := e.Told()
			if n != uint64(len(answers)) || !fewer || told != uint64(want) || !ok {
				t.Fatal(tail, n, told)
			}
			if tail != " COUNT" && len(all(t, g, text+tail)) != want {
				t.Fatal(tail, want)
			}
		}
	}
}

// P6: between two rows there are no more steps than the bound, however great the graph is; the k-th answer is found by no more links than the tree has.
func TestWork(t *testing.T) {
	for _, nodes := range []int{10, 100, 1000} {
		g := random(rand.New(rand.NewSource(53)), nodes, 3*nodes)
		for _, text := range []string{"MATCH (x)-[a]->(y)-[b]->(z), (x)-[b]->(w) RETURN x, y, z, w", "MATCH (x)-[a]->(y)-[b]->(z) RETURN x, z"} {
			p, _, code := plan.New(g, text, wide)
			bound, _ := connex.Bound(read(t, text))
			if code != api.OK {
				t.Fatal(code)
			}
			w := each.New(p.Tree())
			for was := 0; !w.Over(); was = w.Steps() {
				if w.Next(); w.Steps()-was > bound {
					t.Fatal(text, w.Steps()-was)
				}
			}
			c := counts.New(p.Tree())
			for i := range uint64(20) {
				if n := access.Work(c, c.All()/20*i); n > p.Tree().Size() {
					t.Fatal(text, n)
				}
			}
		}
	}
}

// P7: the numbers of nodes, and the way a path without a name is written, change no answer.
func TestNumbersAndWritingMeanNothing(t *testing.T) {
	r := rand.New(rand.NewSource(54))
	for range 40 {
		g := random(r, 5, 10)
		number := r.Perm(5)
		other := api.Graph{Nodes: make([]api.Node, 5)}
		for i, n := range g.Nodes {
			other.Nodes[number[i]] = n
		}
		for _, e := range g.Edges {
			e.From, e.To = number[e.From], number[e.To]
			other.Edges = append(other.Edges, e)
		}
		text := "MATCH (x:A)-[a.(a|b)*]->(y)-[b]->(z) RETURN x, y, z"
		want := all(t, g, text)
		for i, a := range want {
			for j, n := range a.Nodes {
				want[i].Nodes[j] = number[n]
			}
		}
		slices.SortFunc(want, func(a, b api.Answer) int { return slices.Compare(a.Nodes, b.Nodes) })
		if got := all(t, other, text); !slices.EqualFunc(got, want, Same) {
			t.Fatal(got, want)
		}
		if got := all(t, other, "MATCH (x)-[a|a.(b|a)+]->(y)-[b|b]->(z), (x:A), (y)-[()]->(y) RETURN z, y, x"); !slices.EqualFunc(got, want, Same) {
			t.Fatal(got, want)
		}
	}
}

// P8: of any graph, text and limits there is one outcome: the first check that fails.
func TestOneOutcome(t *testing.T) {
	bad := api.Graph{Nodes: []api.Node{{}}}
	good := api.Graph{Nodes: []api.Node{{Label: "A"}, {Label: "A"}}}
	none := api.Limits{}
	narrow := api.Limits{States: 2, Cells: 1}
	for i, x := range []struct {
		g    api.Graph
		text string
		l    api.Limits
		at   int
		code api.Errno
	}{
		{bad, ";", none, 0, api.ErrArg}, {bad, ";", narrow, 1, api.ErrForm}, {good, "x ;", narrow, 2, api.ErrForm}, {good, "MATCH x", narrow, 6, api.ErrForm}, {good, "MATCH (x)-[a.a]->(x) RETURN y", narrow, 0, api.ErrScope}, {good, "MATCH (x)-[a.a]->(y)-[a]->(z)-[a]->(x) RETURN x", narrow, 0, api.ErrCycle}, {good, "MATCH (x)-[a.a]->(x) RETURN x", narrow, 0, api.ErrCells}, {good, "MATCH (x) RETURN x", narrow, 0, api.ErrCells}, {good, "MATCH (x) RETURN x", api.Limits{States: 2, Cells: 2}, 0, api.OK},
	} {
		if _, at, code := New(x.g, x.text, x.l); at != x.at || code != x.code {
			t.Error(i, at, code)
		}
	}
}
