package forest_test

import (
	"math/rand"
	"slices"
	"strconv"
	"strings"
	"testing"

	"bridleway/api"
	. "bridleway/forest"
	"bridleway/hyper"
	"bridleway/parse"
	"bridleway/query"
)

func read(t *testing.T, s string) api.Query {
	t.Helper()
	q, _, code := parse.Parse(s)
	if code != api.OK {
		t.Fatal(s, code)
	}
	return q
}

func of(t *testing.T, s string) api.Forest {
	t.Helper()
	f, code := Of(read(t, s))
	if code != api.OK {
		t.Fatal(s, code)
	}
	return f
}

func same(a, b api.Forest) bool {
	lists := func(x, y []int) bool { return slices.Equal(x, y) }
	return slices.Equal(a.Vars, b.Vars) && slices.Equal(a.Order, b.Order) && slices.Equal(a.Parent, b.Parent) && slices.EqualFunc(a.Links, b.Links, lists) && slices.EqualFunc(a.Loops, b.Loops, lists)
}

func names(f api.Forest) string {
	var l []string
	for _, v := range f.Order {
		l = append(l, f.Vars[v])
	}
	return strings.Join(l, " ")
}

func TestHyper(t *testing.T) {
	h, code := Hyper(read(t, "MATCH (x)-[r: a 3]->(y)-[b]->(z)-[s: a 3]->(z), (z)-[k: a 3]->(y) RETURN x, y, r, z, k"))
	want := [][]int{{0}, {1}, {2}, {0, 3}, {3, 1}, {1, 2}, {2, 2}, {2, 4}, {4, 1}}
	if code != api.OK || h.N != 5 || !slices.EqualFunc(h.Edges, want, func(x, y []int) bool { return slices.Equal(x, y) }) {
		t.Error(h, code)
	}
}

func TestOrder(t *testing.T) {
	want := map[string]string{
		"MATCH (x)-[a]->(y)-[a]->(z) RETURN x":                                        "x y z",
		"MATCH (x)-[a]->(y)-[a]->(z) RETURN z":                                        "z y x",
		"MATCH (x)-[a]->(y)-[a]->(z) RETURN z, y":                                     "y z x",
		"MATCH (x)-[a]->(y)-[a]->(z) RETURN z, x":                                     "x y z",
		"MATCH (x), (y), (z)-[a]->(x), (w) RETURN w":                                  "x z y w",
		"MATCH (a)-[e]->(b), (a)-[e]->(c), (a)-[e]->(d), (c)-[e]->(k) RETURN d":       "d a b c k",
		"MATCH (a)-[e]->(b), (a)-[e]->(c), (a)-[e]->(d), (c)-[e]->(k) RETURN a, d, k": "a d b c k",
		"MATCH (a), (b)-[e]->(c), (d)-[e]->(a) RETURN c, d":                           "d a c b",
	}
	for s, order := range want {
		if got := names(of(t, s)); got != order {
			t.Error(s, got)
		}
	}
}

func TestLinksAndLoops(t *testing.T) {
	f := of(t, "MATCH (x)-[a]->(y)-[b]->(x)-[c]->(x), (z)-[a]->(y), (x)-[d*]->(x) RETURN y")
	want := api.Forest{Vars: []string{"x", "y", "z"}, Order: []int{1, 0, 2}, Parent: []int{1, -1, 1}, Links: [][]int{{0, 1}, nil, {3}}, Loops: [][]int{{2, 4}, nil, nil}}
	if !same(f, want) {
		t.Error(f)
	}
	if g := of(t, "MATCH (x)-[a]->(y)-[b]->(z) RETURN x"); !slices.Equal(Children(g, 0), []int{1}) || !slices.Equal(Children(g, 1), []int{2}) {
		t.Error(g)
	}
	if !slices.Equal(Children(f, 1), []int{0, 2}) || len(Children(f, 0))+len(Children(f, -1))+len(Children(f, 3)) != 0 || !slices.Equal(Roots(f), []int{1}) {
		t.Error("children")
	}
}

func TestErrors(t *testing.T) {
	want := map[string]api.Errno{
		"MATCH (x)-[a]->(y)-[a]->(z)-[a]->(x) RETURN x":           api.ErrCycle,
		"MATCH (x)-[r: a 3]->(y), (x)-[b]->(y) RETURN x, r, y":    api.ErrCycle,
		"MATCH (x)-[r: a 3]->(y), (y)-[b]->(x) RETURN x, y":       api.OK,
		"MATCH (x)-[r: a 3]->(x) RETURN x, r":                     api.OK,
		"MATCH (x)-[r: a 3]->(x), (x)-[b]->(x) RETURN x, r":       api.OK,
		"MATCH (x) RETURN y":                                      api.ErrScope,
		"MATCH (x)-[a]->(y)-[a]->(z)-[a]->(x) RETURN x, x":        api.ErrDup,
		"MATCH (x)-[r: a 3]->(y)-[s: a 3]->(x) RETURN x, y, s":    api.ErrCycle,
		"MATCH (x)-[r: a 3]->(y)-[a]->(z) RETURN x, y, z, r":      api.OK,
		"MATCH (x)-[a]->(y), (x)-[b]->(y), (y)-[c]->(x) RETURN x": api.OK,
	}
	for s, code := range want {
		q := read(t, s)
		f, got := Of(q)
		h, hyperCode := Hyper(q)
		if got != code || code != api.OK && !same(f, api.Forest{}) {
			t.Error(s, got)
		}
		if code == api.ErrCycle {
			code = api.OK
		}
		if hyperCode != code || code != api.OK && (h.N != 0 || len(h.Edges) != 0) {
			t.Error(s, hyperCode)
		}
	}
	if _, code := Of(api.Query{}); code != api.ErrForm {
		t.Error(code)
	}
}

func TestRandomQueries(t *testing.T) {
	r := rand.New(rand.NewSource(19))
	made := 0
	for range 2000 {
		n := 1 + r.Intn(6)
		var items []string
		for i := range n {
			items = append(items, "(v"+strconv.Itoa(i)+")")
		}
		for range r.Intn(n + 1) {
			items = append(items, "(v"+strconv.Itoa(r.Intn(n))+")-[a]->(v"+strconv.Itoa(r.Intn(n))+")")
		}
		told := "v" + strconv.Itoa(r.Intn(n))
		q := read(t, "MATCH "+strings.Join(items, ", ")+" RETURN "+told)
		h, _ := Hyper(q)
		f, code := Of(q)
		if (code == api.OK) != hyper.Acyclic(h) {
			t.Fatal(q, code)
		}
		if code != api.OK {
			continue
		}
		made++
		parts := hyper.Parts(h)
		roots := 0
		for i, p := range parts {
			if i == p {
				roots++
			}
		}
		links := 0
		for i := range f.Vars {
			links += len(f.Links[i]) + len(f.Loops[i])
		}
		if !Good(f) || len(Roots(f)) != roots || links != len(q.Paths) || !slices.Equal(f.Vars, query.Vars(q)) || f.Parent[slices.Index(f.Vars, told)] != -1 {
			t.Fatal(q, f)
		}
	}
	if made < 100 {
		t.Error(made)
	}
}

func TestGoodAndOwn(t *testing.T) {
	some := func() api.Forest {
		return of(t, "MATCH (x)-[a]->(y)-[a]->(z), (x)-[a]->(x) RETURN x")
	}
	bad := []func(f *api.Forest){
		func(f *api.Forest) { f.Vars = f.Vars[:2] },
		func(f *api.Forest) { f.Links = f.Links[:2] },
		func(f *api.Forest) { f.Loops = nil },
		func(f *api.Forest) { f.Parent = append(f.Parent, -1) },
		func(f *api.Forest) { f.Order = f.Order[:2] },
		func(f *api.Forest) { f.Order[0] = 1 },
		func(f *api.Forest) { f.Order[0] = 3 },
		func(f *api.Forest) { f.Order[0] = -1 },
		func(f *api.Forest) { f.Order = []int{1, 0, 2} },
		func(f *api.Forest) { f.Parent[0] = 0 },
		func(f *api.Forest) { f.Parent[0] = -2 },
		func(f *api.Forest) { f.Parent[0] = 3 },
		func(f *api.Forest) { f.Parent[1] = 2 },
	}
	for i, change := range bad {
		f := some()
		own := Own(f)
		change(&own)
		if !Good(f) || Good(own) || !same(f, some()) || len(Roots(own))+len(Children(own, 0)) != 0 || !same(Own(own), own) {
			t.Error(i)
		}
	}
	f := some()
	own := Own(f)
	own.Links[1][0], own.Loops[0][0], own.Vars[0] = 9, 9, "q"
	if !same(f, some()) || !Good(api.Forest{}) || len(Roots(api.Forest{})) != 0 {
		t.Error("shared")
	}
}
