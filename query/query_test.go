package query_test

import (
	"slices"
	"strings"
	"testing"

	"bridleway/api"
	. "bridleway/query"
)

func num(n int) api.Value        { return api.Value{Kind: api.VInt, Int: n} }
func text(s string) api.Value    { return api.Value{Kind: api.VText, Text: s} }
func sym(label string) api.Regex { return api.Regex{Kind: api.RSym, Sym: api.Sym{Label: label}} }
func star(r api.Regex) api.Regex { return api.Regex{Kind: api.RStar, Parts: []api.Regex{r}} }

func some() api.Query {
	return api.Query{
		Places: []api.Place{
			{Var: "x", Label: "A", Tests: []api.Test{{Name: "p", Op: api.Gt, Value: num(1)}, {Name: "q", Op: api.Ne, Value: text("it's")}}},
			{Var: "y"},
			{Var: "x", Label: "B"},
			{Var: "x", Tests: []api.Test{{Name: "p", Op: api.Le, Value: num(-9)}}},
		},
		Paths: []api.Path{
			{From: "x", To: "y", Regex: star(sym("a"))},
			{From: "y", To: "y", Regex: sym("b"), Var: "r", Hops: 30},
			{From: "y", To: "x", Regex: star(sym("a")), Var: "s", Short: true},
		},
		Return: []string{"x", "r"}, Cost: true, Skip: 0, Limit: 1000000000, Count: true,
	}
}

const someText = "MATCH (x:A {p > 1, q <> 'it\\'s'}), (y), (x:B), (x {p <= -9}), (x)-[a*]->(y), (y)-[r: b 30]->(y), (y)-[s: a* SHORTEST]->(x) RETURN x, r ORDER BY COST SKIP 0 LIMIT 1000000000 COUNT"

func TestPrint(t *testing.T) {
	if s, code := Print(some()); s != someText || code != api.OK {
		t.Error(s, code)
	}
	q := api.Query{Places: []api.Place{{Var: "x"}}, Return: []string{"z"}, Skip: -1, Limit: -1}
	if s, code := Print(q); s != "MATCH (x) RETURN z" || code != api.OK {
		t.Error(s, code)
	}
	q.Limit = 0
	if s, _ := Print(q); s != "MATCH (x) RETURN z LIMIT 0" {
		t.Error(s)
	}
	q.Limit = 5
	if s, _ := Print(q); s != "MATCH (x) RETURN z LIMIT 5" {
		t.Error(s)
	}
}

// changes make of a good query ones that are not good.
var bad = []func(q *api.Query){
	func(q *api.Query) { q.Places = nil },
	func(q *api.Query) { q.Places = slices.Repeat(q.Places[:1], 17) },
	func(q *api.Query) { q.Places[1].Var = "" },
	func(q *api.Query) { q.Places[0].Var = "BY" },
	func(q *api.Query) { q.Places[0].Label = "COST" },
	func(q *api.Query) { q.Places[0].Label = "1" },
	func(q *api.Query) { q.Places[0].Tests = slices.Repeat(q.Places[0].Tests[:1], 9) },
	func(q *api.Query) { q.Places[0].Tests[0].Name = "LIMIT" },
	func(q *api.Query) { q.Places[0].Tests[0].Name = "" },
	func(q *api.Query) { q.Places[0].Tests[0].Op = 0 },
	func(q *api.Query) { q.Places[0].Tests[0].Op = 7 },
	func(q *api.Query) { q.Places[0].Tests[0].Value = api.Value{} },
	func(q *api.Query) { q.Places[0].Tests[0].Value = text("\n") },
	func(q *api.Query) { q.Places[2].Label = "" },
	func(q *api.Query) { q.Paths = slices.Repeat(q.Paths[:1], 17) },
	func(q *api.Query) { q.Paths[0].From = "z" },
	func(q *api.Query) { q.Paths[0].To = "z" },
	func(q *api.Query) { q.Paths[0].Regex = api.Regex{} },
	func(q *api.Query) { q.Paths[0].Regex = star(sym("SKIP")) },
	func(q *api.Query) { q.Paths[0].Hops = 1 },
	func(q *api.Query) { q.Paths[0].Short = true },
	func(q *api.Query) { q.Paths[1].Hops = 0 },
	func(q *api.Query) { q.Paths[1].Hops = 31 },
	func(q *api.Query) { q.Paths[1].Short = true },
	func(q *api.Query) { q.Paths[2].Hops = -1 },
	func(q *api.Query) { q.Paths[2].Var = "MATCH" },
	func(q *api.Query) { q.Paths[2].Var = "_" },
	func(q *api.Query) { q.Return = nil },
	func(q *api.Query) { q.Return = slices.Repeat(q.Return, 17) },
	func(q *api.Query) { q.Return[1] = "COUNT" },
	func(q *api.Query) { q.Return[1] = "" },
	func(q *api.Query) { q.Skip = -2 },
	func(q *api.Query) { q.Skip = 1000000001 },
	func(q *api.Query) { q.Limit = -2 },
	func(q *api.Query) { q.Limit = 1000000001 },
}

func TestGood(t *testing.T) {
	if nothing := (api.Query{Return: []string{"x"}, Skip: -1, Limit: -1}); Good(nothing) {
		t.Error("no places")
	}
	if !Good(some()) || Good(api.Query{}) {
		t.Error("good")
	}
	for i, change := range bad {
		q := some()
		change(&q)
		if s, code := Print(q); Good(q) || s != "" || code != api.ErrForm {
			t.Error(i, s, code)
		}
		if Same(q, some()) || !Same(q, q) || !Same(Own(q), q) {
			t.Error("same", i)
		}
	}
	q := some()
	q.Places = append(q.Places, slices.Repeat(q.Places[:1], 12)...)
	q.Places[0].Tests = slices.Repeat(q.Places[0].Tests, 4)
	q.Paths = append(slices.Repeat(q.Paths, 5), q.Paths[0])
	q.Paths[1].Hops = 1
	q.Return = slices.Repeat(q.Return, 16)
	for op := api.Eq; op <= api.Ge; op++ {
		q.Places[0].Tests[0].Op = op
		if !Good(q) || len(q.Paths) != api.MaxPaths {
			t.Error("limits", op)
		}
	}
}

func TestSameAndOwn(t *testing.T) {
	changes := []func(q *api.Query){
		func(q *api.Query) { q.Places[0].Tests[0].Value.Int++ },
		func(q *api.Query) { q.Places[0].Label = "C" },
		func(q *api.Query) { q.Places[1].Var = "C" },
		func(q *api.Query) { q.Paths[0].Regex.Parts[0].Sym.Back = true },
		func(q *api.Query) { q.Paths[0].From = "q" },
		func(q *api.Query) { q.Paths[0].To = "q" },
		func(q *api.Query) { q.Paths[1].Hops = 3 },
		func(q *api.Query) { q.Paths[1].Var = "k" },
		func(q *api.Query) { q.Paths[2].Short = false },
		func(q *api.Query) { q.Return[0] = "k" },
		func(q *api.Query) { q.Cost = false },
		func(q *api.Query) { q.Skip = 9 },
		func(q *api.Query) { q.Limit = 9 },
		func(q *api.Query) { q.Count = false },
	}
	for i, change := range changes {
		q := some()
		own := Own(q)
		change(&own)
		if Same(q, own) || Same(own, q) || !Same(q, some()) {
			t.Error(i)
		}
		a, _ := Print(q)
		if b, _ := Print(own); a == b {
			t.Error(i, a)
		}
	}
	if !Same(api.Query{}, api.Query{Places: []api.Place{}, Return: []string{}}) {
		t.Error("nil and empty")
	}
}

func TestLists(t *testing.T) {
	q := some()
	q.Paths = append(q.Paths, q.Paths[1])
	if !slices.Equal(Vars(q), []string{"x", "y"}) || !slices.Equal(Names(q), []string{"r", "s", "r"}) {
		t.Error(Vars(q), Names(q))
	}
	if l := Tests(q, "x"); len(l) != 3 || l[2].Op != api.Le || len(Tests(q, "y")) != 0 {
		t.Error(l)
	}
	if !slices.Equal(Labels(q, "x"), []string{"A", "B"}) || len(Labels(q, "y"))+len(Labels(q, "none")) != 0 {
		t.Error("labels")
	}
	Tests(q, "x")[0].Name = "changed"
	if strings.Contains(q.Places[0].Tests[0].Name, "changed") {
		t.Error("shared")
	}
	if len(Vars(api.Query{}))+len(Names(api.Query{})) != 0 {
		t.Error("none")
	}
}
