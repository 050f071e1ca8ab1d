package scope_test

import (
	"slices"
	"strings"
	"testing"

	"bridleway/api"
	"bridleway/parse"
	"bridleway/query"
	. "bridleway/scope"
)

func read(t *testing.T, s string) api.Query {
	t.Helper()
	q, _, code := parse.Parse(s)
	if code != api.OK {
		t.Fatal(s, code)
	}
	return q
}

// places is n variables from a on.
func places(n int) string {
	var l []string
	for i := range n {
		l = append(l, "("+string(rune('a'+i))+")")
	}
	return "MATCH " + strings.Join(l, ", ")
}

func TestCheck(t *testing.T) {
	want := map[string]api.Errno{
		"MATCH (x) RETURN x":                                              api.OK,
		"MATCH (x)-[r: a 3]->(y) RETURN r, y, x SKIP 0":                   api.OK,
		"MATCH (x)-[r: a 3]->(y) RETURN x":                                api.OK,
		"MATCH (x)-[r: a 3]->(y)-[r: a 3]->(x) RETURN z, z":               api.ErrDup,
		"MATCH (x)-[y: a 3]->(y) RETURN x":                                api.ErrDup,
		places(12) + " RETURN a":                                          api.OK,
		places(13) + " RETURN zz":                                         api.ErrLong,
		places(11) + ", (a)-[r: a 3]->(a) RETURN a":                       api.OK,
		places(12) + ", (a)-[r: a 3]->(a) RETURN a":                       api.ErrLong,
		places(13) + ", (a)-[a: a 3]->(a) RETURN a":                       api.ErrDup,
		"MATCH (x) RETURN x, z, x":                                        api.ErrScope,
		"MATCH (x) RETURN x, x":                                           api.ErrDup,
		"MATCH (x)-[r: a 3]->(y) RETURN r, r, x":                          api.ErrDup,
		"MATCH (x)-[r: a 3]->(y) RETURN r, x":                             api.ErrScope,
		"MATCH (x)-[r: a 3]->(y) RETURN y, r":                             api.ErrScope,
		"MATCH (x)-[r: a 3]->(x) RETURN x, r":                             api.OK,
		"MATCH (x)-[r: a 3]->(y) RETURN x ORDER BY COST":                  api.ErrScope,
		"MATCH (x)-[a]->(y) RETURN x ORDER BY COST SKIP 3 LIMIT 4":        api.OK,
		"MATCH (x)-[a]->(y) RETURN x COUNT":                               api.OK,
		"MATCH (x)-[r: a SHORTEST]->(y) RETURN x COUNT":                   api.OK,
		"MATCH (x)-[a]->(y) RETURN x ORDER BY COST COUNT":                 api.ErrScope,
		"MATCH (x)-[a]->(y) RETURN x SKIP 0 COUNT":                        api.ErrScope,
		"MATCH (x)-[a]->(y) RETURN x LIMIT 0 COUNT":                       api.ErrScope,
		"MATCH (x)-[a]->(y)-[b]->(z)-[c]->(x) RETURN x":                   api.OK,
		"MATCH (x)-[r: a 3]->(y) RETURN x, r, y LIMIT 1000000000":         api.OK,
		"MATCH (x)-[r: a 3]->(y), (x)-[a 3]->(y) RETURN x, r, y LIMIT 10": api.ErrForm,
	}
	for s, code := range want {
		q, _, parsed := parse.Parse(s)
		if parsed != api.OK {
			if code != api.ErrForm {
				t.Error(s, parsed)
			}
			continue
		}
		if got := Check(q); got != code || Good(q) != (code == api.OK) {
			t.Error(s, got)
		}
		slices.Reverse(q.Return)
		if got := Check(q); got != code {
			t.Error("turned", s, got)
		}
	}
	if Check(api.Query{}) != api.ErrForm {
		t.Error("form")
	}
}

func TestLists(t *testing.T) {
	q := read(t, "MATCH (x)-[r: a 3]->(y)-[a]->(z)-[s: a.b SHORTEST]->(z), (z)-[k: a 1]->(x) RETURN s, z, x, k")
	if !slices.Equal(Free(q), []string{"x", "z"}) || !slices.Equal(Bound(q), []string{"y"}) || !slices.Equal(Rows(q), []int{2, 3}) || All(q) {
		t.Error(Free(q), Bound(q), Rows(q))
	}
	for i, single := range []bool{false, true, false, false} {
		if Single(q.Paths[i]) != single {
			t.Error(i)
		}
	}
	q.Return = []string{"k", "r", "s", "z", "y", "x"}
	if !All(q) || len(Bound(q)) != 0 || !slices.Equal(Free(q), query.Vars(q)) || len(Rows(q)) != 3 {
		t.Error("all")
	}
	q.Return = q.Return[1:]
	if All(q) {
		t.Error("not all")
	}
	if Single(api.Path{}) || Single(api.Path{Regex: api.Regex{Kind: api.RSym}}) || len(Free(api.Query{}))+len(Bound(api.Query{}))+len(Rows(api.Query{})) != 0 || !All(api.Query{}) {
		t.Error("nothing")
	}
}
