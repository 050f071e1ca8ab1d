package paths_test

import (
	"math"
	"math/rand"
	"slices"
	"testing"

	"bridleway/api"
	"bridleway/csr"
	"bridleway/dfa"
	. "bridleway/paths"
	"bridleway/product"
	"bridleway/regex"
)

func read(t *testing.T, s string) api.Regex {
	t.Helper()
	r, _, code := regex.Parse(s)
	if code != api.OK {
		t.Fatal(s, code)
	}
	return r
}

func random(r *rand.Rand, nodes, edges int) api.Graph {
	var g api.Graph
	for range nodes {
		g.Nodes = append(g.Nodes, api.Node{Label: "n"})
	}
	for range edges {
		g.Edges = append(g.Edges, api.Edge{From: r.Intn(nodes), To: r.Intn(nodes), Label: []string{"a", "b"}[r.Intn(2)]})
	}
	return g
}

// all is all rows of at most so many hops that match, from a node to another one, in order.
func all(g api.Graph, c *csr.Csr, r api.Regex, from, to, hops int) [][]api.Hop {
	var found [][]api.Hop
	rows := [][]api.Hop{nil}
	for n := 0; len(rows) > 0; n++ {
		var longer [][]api.Hop
		for _, row := range rows {
			end, _, ok := product.Walk(c, from, row...)
			if !ok {
				continue
			}
			var steps []api.Sym
			for _, h := range row {
				steps = append(steps, api.Sym{Label: g.Edges[h.Edge].Label, Back: h.Back})
			}
			if end == to && regex.Match(r, steps...) {
				found = append(found, row)
			}
			for e := range g.Edges {
				for _, back := range []bool{false, true} {
					longer = append(longer, append(slices.Clone(row), api.Hop{Edge: e, Back: back}))
				}
			}
		}
		rows = longer
		if n == hops {
			rows = nil
		}
	}
	slices.SortFunc(found, Order)
	return found
}

// shortest is those rows that have the fewest hops.
func shortest(rows [][]api.Hop) [][]api.Hop {
	least := math.MaxInt
	for _, row := range rows {
		least = min(least, len(row))
	}
	return slices.DeleteFunc(rows, func(row []api.Hop) bool { return len(row) > least })
}

func TestRows(t *testing.T) {
	r := rand.New(rand.NewSource(26))
	texts := []string{"a", "^a", "()", "a*", "a.b", "(a|b)*", "a.(b|^a)*", "(a|^a)+", "a?.b*", "c"}
	for round := range 150 {
		g := random(r, 1+r.Intn(3), r.Intn(4))
		c, _ := csr.New(g)
		x := read(t, texts[round%len(texts)])
		p := api.Path{Regex: x, Hops: r.Intn(4), Short: round%3 == 0}
		to := r.Intn(len(g.Nodes))
		if p.Short {
			p.Hops = -7
		}
		rows, code := New(c, p, to, 100)
		if code != api.OK {
			t.Fatal(code)
		}
		var links []api.Link
		for from := range g.Nodes {
			want := all(g, c, x, from, to, max(p.Hops, 0))
			if p.Short {
				most := 0
				if d, _ := dfa.Of(x, 100); true {
					most, _ = product.Steps(c, d, from, to)
				}
				want = shortest(all(g, c, x, from, to, most))
			}
			if len(want) > 0 {
				links = append(links, api.Link{A: from, B: to, N: uint64(len(want))})
			}
			checkRows(t, rows, from, want)
		}
		if !slices.Equal(rows.Links(), links) {
			t.Fatal(rows.Links(), links)
		}
	}
}

func checkRows(t *testing.T, r *Rows, from int, want [][]api.Hop) {
	t.Helper()
	if r.Count(from) != uint64(len(want)) {
		t.Fatal(from, r.Count(from), len(want))
	}
	for k, row := range want {
		got, ok := r.At(from, uint64(k))
		if Order(got, row) != 0 || !ok {
			t.Fatal(k, got, row)
		}
		if rank, ok := r.Rank(from, row...); rank != uint64(k) || !ok {
			t.Fatal(k, rank)
		}
		next, ok := r.Next(from, row...)
		if ok != (k+1 < len(want)) || ok && Order(next, want[k+1]) != 0 || !ok && next != nil {
			t.Fatal(k, next)
		}
		wrong := append(slices.Clone(row), api.Hop{Edge: 99})
		_, ok1 := r.Rank(from, wrong...)
		_, ok2 := r.Next(from, wrong...)
		if ok1 || ok2 {
			t.Fatal("wrong")
		}
		if len(row) > 0 {
			short := row[:len(row)-1]
			_, is := slices.BinarySearchFunc(want, short, Order)
			if _, ok := r.Rank(from, short...); ok != is {
				t.Fatal(short)
			}
		}
	}
	for _, k := range []uint64{uint64(len(want)), math.MaxUint64} {
		if l, ok := r.At(from, k); l != nil || ok {
			t.Fatal(k)
		}
	}
}

func TestMost(t *testing.T) {
	g := api.Graph{Nodes: []api.Node{{Label: "n"}}}
	for range 8 {
		g.Edges = append(g.Edges, api.Edge{Label: "a"})
	}
	c, _ := csr.New(g)
	rows, code := New(c, api.Path{Regex: read(t, "a*"), Hops: 30}, 0, 100)
	if code != api.OK || rows.Count(0) != api.Most {
		t.Fatal(code)
	}
	// The rows begin with the empty one, and go on with more and more hops along the edge 0.
	for _, k := range []uint64{0, 1, 29, 30, 31, 38, 39, 1 << 40, api.Most - 1} {
		row, ok := rows.At(0, k)
		if k <= 30 && len(row) != int(k) || !ok {
			t.Error(k, row)
		}
		if rank, ok := rows.Rank(0, row...); rank != k || !ok {
			t.Error(k, rank)
		}
	}
	if row, ok := rows.At(0, api.Most); row != nil || ok {
		t.Error(row)
	}
	// So the second row of 30 hops is the 31st one.
	row, _ := rows.At(0, 31)
	if len(row) != 30 || row[29].Edge != 1 || row[28].Edge != 0 {
		t.Error(row)
	}
}

func TestErrors(t *testing.T) {
	c, _ := csr.New(api.Graph{Nodes: []api.Node{{Label: "n"}}})
	a := read(t, "a")
	cases := []struct {
		c        *csr.Csr
		p        api.Path
		to, most int
		code     api.Errno
	}{
		{nil, api.Path{}, 5, 0, api.ErrArg}, {nil, api.Path{}, 5, 1, api.ErrForm}, {nil, api.Path{Regex: a}, 5, 1, api.ErrCells}, {nil, api.Path{Regex: a}, 0, 5, api.ErrArg}, {c, api.Path{Regex: a, Hops: -1}, 0, 5, api.ErrArg}, {c, api.Path{Regex: a, Hops: -1, Short: true}, 0, 5, api.OK}, {c, api.Path{Regex: a, Hops: 500000}, 7, 5, api.ErrCells}, {c, api.Path{Regex: a, Hops: 500000, Short: true}, 0, 5, api.OK}, {c, api.Path{Regex: a}, 1, 5, api.ErrArg}, {c, api.Path{Regex: a, Short: true}, -1, 5, api.ErrArg}, {c, api.Path{Regex: a, Hops: 3, Var: "BY"}, 0, 2, api.OK},
	}
	for i, x := range cases {
		if r, code := New(x.c, x.p, x.to, x.most); code != x.code || (r == nil) != (code != api.OK) {
			t.Error(i, code)
		}
	}
}

func TestNone(t *testing.T) {
	c, _ := csr.New(api.Graph{Nodes: []api.Node{{Label: "n"}}})
	made, _ := New(c, api.Path{Regex: read(t, "()")}, 0, 5)
	for _, r := range []*Rows{nil, made} {
		for _, from := range []int{-1, 1, math.MaxInt} {
			l, ok := r.At(from, 0)
			rank, ok2 := r.Rank(from)
			next, ok3 := r.Next(from)
			if r.Count(from) != 0 || l != nil || ok || rank != 0 || ok2 || next != nil || ok3 {
				t.Error(from)
			}
		}
	}
	if len((*Rows)(nil).Links()) != 0 || made.Count(0) != 1 {
		t.Error("links")
	}
}

func TestOrderAndPrint(t *testing.T) {
	rising := [][]api.Hop{nil, {{Edge: 0}}, {{Edge: 0}, {Edge: 5}}, {{Edge: 0, Back: true}}, {{Edge: 1}}, {{Edge: 1, Back: true}, {Edge: 0}}, {{Edge: 10}}}
	for i, a := range rising {
		for j, b := range rising {
			want := 0
			if i < j {
				want = -1
			} else if i > j {
				want = 1
			}
			if Order(a, b) != want {
				t.Error(a, b, Order(a, b))
			}
		}
	}
	if Print() != "" || Print(api.Hop{Edge: 3}, api.Hop{Edge: 1, Back: true}) != "+3 -1" || Print(api.Hop{Edge: -2, Back: true}) != "--2" {
		t.Error("print")
	}
}
