package access_test

import (
	"math"
	"math/rand"
	"slices"
	"testing"

	. "bridleway/access"
	"bridleway/api"
	"bridleway/counts"
	"bridleway/each"
	"bridleway/tree"
)

func random(r *rand.Rand, ways int) *tree.Tree {
	n := r.Intn(5)
	f := api.Forest{Links: make([][]int, n), Loops: make([][]int, n)}
	p := api.Parts{Nodes: make([][]api.Link, n), Links: make([][]api.Link, n)}
	for v := range n {
		f.Vars = append(f.Vars, string(rune('x'+v)))
		f.Order = append(f.Order, v)
		f.Parent = append(f.Parent, r.Intn(v+1)-1)
		for a := range 4 {
			if r.Intn(4) > 0 {
				p.Nodes[v] = append(p.Nodes[v], api.Link{A: a, B: a, N: uint64(1 + r.Intn(ways))})
			}
			for b := range 4 {
				if f.Parent[v] >= 0 && r.Intn(3) > 0 {
					p.Links[v] = append(p.Links[v], api.Link{A: a, B: b, N: uint64(1 + r.Intn(ways))})
				}
			}
		}
	}
	t, _ := tree.New(f, p)
	return t
}

func TestAtAndRank(t *testing.T) {
	r := rand.New(rand.NewSource(32))
	for range 300 {
		tr := random(r, 3)
		c := counts.New(tr)
		var k uint64
		for _, want := range each.All(tr, math.MaxInt) {
			if rank, ok := Rank(c, want.Nodes...); rank != k || !ok || Ahead(c, want.Nodes...) != k {
				t.Fatal(want, rank, k)
			}
			for rest := range want.N {
				row, got, ok := At(c, k)
				if !slices.Equal(row.Nodes, want.Nodes) || row.N != want.N || got != rest || !ok {
					t.Fatal(k, row, got)
				}
				checkWork(t, c, k, row)
				k++
			}
		}
		for _, k := range []uint64{c.All(), c.All() + 1, math.MaxUint64} {
			if row, rest, ok := At(c, k); ok || rest != 0 || row.Nodes != nil || Work(c, k) != 0 {
				t.Fatal(k)
			}
		}
		checkAhead(t, r, c)
	}
}

func checkWork(t *testing.T, c *counts.Counts, k uint64, row api.Row) {
	t.Helper()
	want := 0
	for i, node := range row.Nodes {
		above := -1
		if parent := c.Tree().Parent(i); parent >= 0 {
			above = row.Nodes[parent]
		}
		for _, x := range c.Tree().Group(i, above) {
			if x.B <= node {
				want++
			}
		}
	}
	if got := Work(c, k); got != want || got > c.Tree().Size() {
		t.Fatal(k, got, want)
	}
}

func checkAhead(t *testing.T, r *rand.Rand, c *counts.Counts) {
	t.Helper()
	for range 20 {
		var guess []int
		for range c.Tree().Len() {
			guess = append(guess, r.Intn(7)-1)
		}
		var want uint64
		is := false
		for _, row := range each.All(c.Tree(), math.MaxInt) {
			switch slices.Compare(row.Nodes, guess) {
			case -1:
				want += row.N
			case 0:
				is = true
			}
		}
		rank, ok := Rank(c, guess...)
		if Ahead(c, guess...) != want || ok != is || ok && rank != want || !ok && rank != 0 {
			t.Fatal(guess, want)
		}
		if Ahead(c, append(guess, 0)...) != 0 {
			t.Fatal("too many")
		}
	}
}

func TestMost(t *testing.T) {
	f := api.Forest{Vars: []string{"x", "y", "z"}, Order: []int{0, 1, 2}, Parent: []int{-1, -1, -1}, Links: make([][]int, 3), Loops: make([][]int, 3)}
	node := func(n int, ways uint64) api.Link { return api.Link{A: n, B: n, N: ways} }
	p := api.Parts{Nodes: [][]api.Link{{node(0, 1), node(1, 1<<40)}, {node(0, 1), node(1, 1<<40)}, {node(0, 5), node(1, 1<<40)}}, Links: make([][]api.Link, 3)}
	tr, _ := tree.New(f, p)
	c := counts.New(tr)
	if c.All() != api.Most {
		t.Fatal(c.All())
	}
	cases := []struct {
		k     uint64
		nodes []int
		rest  uint64
	}{
		{0, []int{0, 0, 0}, 0}, {4, []int{0, 0, 0}, 4}, {5, []int{0, 0, 1}, 0}, {5 + 1<<40, []int{0, 1, 0}, 0}, {5 + 1<<40 + 5<<40, []int{0, 1, 1}, 0}, {api.Most - 1, []int{0, 1, 1}, api.Most - 1 - 5 - 6<<40},
	}
	for _, x := range cases {
		row, rest, ok := At(c, x.k)
		if !slices.Equal(row.Nodes, x.nodes) || rest != x.rest || !ok {
			t.Error(x.k, row, rest)
		}
	}
	if _, _, ok := At(c, api.Most); ok {
		t.Error("beyond")
	}
	if rank, ok := Rank(c, 0, 0, 1); rank != 0 || ok || Ahead(c, 0, 0, 1) != 0 {
		t.Error(rank, ok)
	}
}

func TestDigits(t *testing.T) {
	if l, ok := Digits(5, 2, 3); !slices.Equal(l, []uint64{1, 2}) || !ok {
		t.Error(l, ok)
	}
	sizes := []uint64{3, 1, 4, 2}
	for k := range uint64(24) {
		l, ok := Digits(k, sizes...)
		n, ok2 := Number(l, sizes)
		if !ok || !ok2 || n != k || l[0]*8+l[1]*8+l[2]*2+l[3] != k {
			t.Error(k, l, n)
		}
	}
	for _, bad := range [][]uint64{sizes, {0}, {24, 0}, {}, {1 << 31, 1 << 31}, {math.MaxUint64}, {api.Most}} {
		k := uint64(24)
		if len(bad) > 0 && bad[0] > 100 {
			k = 0
		}
		if l, ok := Digits(k, bad...); l != nil || ok {
			t.Error(bad, l)
		}
	}
	if l, ok := Digits(0); len(l) != 0 || !ok {
		t.Error(l, ok)
	}
	if l, ok := Digits(1<<61+5, 1<<31, 1<<30+1<<29); !ok || l[0]*(1<<30+1<<29)+l[1] != 1<<61+5 {
		t.Error(l, ok)
	}
	if k, ok := Number(nil, nil); k != 0 || !ok {
		t.Error(k, ok)
	}
	for _, x := range [][2][]uint64{{{1}, {1}}, {{0}, {0}}, {{0}, nil}, {{0}, {1, 1}}, {{0, 0}, {1 << 31, 1 << 31}}, {{0}, {math.MaxUint64}}, {{1, 5}, {2, 5}}} {
		if k, ok := Number(x[0], x[1]); k != 0 || ok {
			t.Error(x, k)
		}
	}
	sizes[0] = 3
	l, _ := Digits(0, sizes...)
	l[0] = 9
	if sizes[0] != 3 {
		t.Error("shared")
	}
}

func TestNone(t *testing.T) {
	for _, c := range []*counts.Counts{nil, counts.New(nil)} {
		row, rest, ok := At(c, 0)
		rank, ok2 := Rank(c)
		if row.Nodes != nil || row.N != 0 || rest != 0 || ok || rank != 0 || ok2 || Ahead(c) != 0 || Work(c, 0) != 0 {
			t.Error("nil")
		}
	}
	empty, _ := tree.New(api.Forest{}, api.Parts{})
	c := counts.New(empty)
	if row, rest, ok := At(c, 0); len(row.Nodes) != 0 || row.N != 1 || rest != 0 || !ok || Work(c, 0) != 0 {
		t.Error(row, rest, ok)
	}
	if rank, ok := Rank(c); rank != 0 || !ok || Ahead(c) != 0 {
		t.Error(rank, ok)
	}
}
