package connex_test

import (
	"math/rand"
	"slices"
	"strconv"
	"strings"
	"testing"

	"bridleway/api"
	. "bridleway/connex"
	"bridleway/forest"
	"bridleway/parse"
)

func read(t *testing.T, s string) api.Query {
	t.Helper()
	q, _, code := parse.Parse(s)
	if code != api.OK {
		t.Fatal(s, code)
	}
	return q
}

func TestIs(t *testing.T) {
	want := map[string]bool{
		"MATCH (x)-[a]->(y)-[a]->(z) RETURN x, z":                     false,
		"MATCH (x)-[a]->(y)-[a]->(z) RETURN x, y":                     true,
		"MATCH (x)-[a]->(y)-[a]->(z) RETURN y":                        true,
		"MATCH (x)-[a]->(y)-[a]->(z), (w) RETURN z, y, w":             true,
		"MATCH (x)-[a]->(y), (z)-[a]->(w) RETURN x, z":                true,
		"MATCH (x)-[r: a 3]->(y)-[a]->(z) RETURN x, r, y":             true,
		"MATCH (x)-[r: a 3]->(y)-[a]->(z)-[a]->(w) RETURN x, r, y, w": false,
		"MATCH (x)-[r: a 3]->(x)-[a]->(y) RETURN x, r":                true,
	}
	for s, is := range want {
		if got, code := Is(read(t, s)); got != is || code != api.OK {
			t.Error(s, got, code)
		}
	}
}

func TestIsJustIfTop(t *testing.T) {
	r := rand.New(rand.NewSource(20))
	is, isNot := 0, 0
	for range 2000 {
		n := 1 + r.Intn(6)
		var items, told []string
		for i := range n {
			items = append(items, "(v"+strconv.Itoa(i)+")")
			if r.Intn(2) == 0 {
				told = append(told, "v"+strconv.Itoa(i))
			}
		}
		for i := range r.Intn(n + 1) {
			from, to := "v"+strconv.Itoa(r.Intn(n)), "v"+strconv.Itoa(r.Intn(n))
			inside := "a"
			if r.Intn(3) == 0 {
				inside = "r" + strconv.Itoa(i) + ": a 2"
				if slices.Contains(told, from) && slices.Contains(told, to) {
					told = append(told, "r"+strconv.Itoa(i))
				}
			}
			items = append(items, "("+from+")-["+inside+"]->("+to+")")
		}
		if len(told) == 0 {
			continue
		}
		q := read(t, "MATCH "+strings.Join(items, ", ")+" RETURN "+strings.Join(told, ", "))
		f, code := forest.Of(q)
		got, isCode := Is(q)
		if isCode != code {
			t.Fatal(isCode, code)
		}
		if code != api.OK {
			continue
		}
		if got != Top(f, q.Return...) {
			t.Fatal(q, got)
		}
		if got {
			is++
			checkCut(t, f, q)
		} else {
			isNot++
			if c, code := Cut(f, q.Return...); code != api.ErrArg || len(c.Vars) != 0 {
				t.Fatal(code)
			}
		}
	}
	if is < 50 || isNot < 50 {
		t.Error(is, isNot)
	}
}

func checkCut(t *testing.T, f api.Forest, q api.Query) {
	t.Helper()
	c, code := Cut(f, q.Return...)
	if code != api.OK || !forest.Good(c) {
		t.Fatal(c, code)
	}
	columns, _ := Columns(q)
	for i, v := range c.Order {
		old := slices.Index(f.Vars, c.Vars[v])
		if c.Vars[v] != columns[i] || !slices.Equal(c.Links[v], f.Links[old]) || !slices.Equal(c.Loops[v], f.Loops[old]) {
			t.Fatal(c)
		}
		if f.Parent[old] < 0 && c.Parent[v] != -1 || f.Parent[old] >= 0 && c.Vars[c.Parent[v]] != f.Vars[f.Parent[old]] {
			t.Fatal(c)
		}
	}
	if !slices.IsSortedFunc(c.Vars, func(a, b string) int { return slices.Index(f.Vars, a) - slices.Index(f.Vars, b) }) {
		t.Fatal(c.Vars)
	}
}

func TestColumnsBoundOrder(t *testing.T) {
	q := read(t, "MATCH (x)-[s: a 3]->(y)-[r: a 3]->(z), (z)-[b]->(w), (k) RETURN r, z, k, y")
	columns, code := Columns(q)
	if code != api.OK || !slices.Equal(columns, []string{"y", "z", "k", "r"}) {
		t.Error(columns, code)
	}
	if n, code := Bound(q); n != 64*(5+3+4+1) || code != api.OK {
		t.Error(n, code)
	}
	if l, code := Order(q); !slices.Equal(l, []int{3, 1, 2, 0}) || code != api.OK {
		t.Error(l, code)
	}
	// However Return is written, the columns are the same.
	slices.Reverse(q.Return)
	if again, _ := Columns(q); !slices.Equal(again, columns) {
		t.Error(again)
	}
}

func TestErrors(t *testing.T) {
	for s, code := range map[string]api.Errno{"MATCH (x) RETURN y": api.ErrScope, "MATCH (x)-[a]->(y)-[a]->(z)-[a]->(x) RETURN x": api.ErrCycle, "MATCH (x) RETURN x, x": api.ErrDup} {
		q := read(t, s)
		is, code1 := Is(q)
		columns, code2 := Columns(q)
		bound, code3 := Bound(q)
		order, code4 := Order(q)
		if is || columns != nil || bound != 0 || order != nil || code1 != code || code2 != code || code3 != code || code4 != code {
			t.Error(s, code1, code2, code3, code4)
		}
	}
	bad := api.Forest{Vars: []string{"x"}}
	if Top(bad) || Top(bad, "x") {
		t.Error("top")
	}
	if _, code := Cut(bad); code != api.ErrArg {
		t.Error(code)
	}
}

func TestCutOfNone(t *testing.T) {
	f, _ := forest.Of(read(t, "MATCH (x)-[a]->(y) RETURN x"))
	c, code := Cut(f, "none")
	if code != api.OK || len(c.Vars)+len(c.Order) != 0 || !forest.Good(c) {
		t.Error(c, code)
	}
	c, _ = Cut(f, "x", "y", "y")
	c.Links[1][0] = 9
	if f.Links[1][0] != 0 || len(c.Vars) != 2 {
		t.Error("shared")
	}
}
