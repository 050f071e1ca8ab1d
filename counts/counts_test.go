package counts_test

import (
	"math"
	"math/rand"
	"slices"
	"testing"

	"bridleway/api"
	. "bridleway/counts"
	"bridleway/tree"
)

func random(r *rand.Rand, ways int) *tree.Tree {
	n := r.Intn(5)
	f := api.Forest{Links: make([][]int, n), Loops: make([][]int, n)}
	p := api.Parts{Nodes: make([][]api.Link, n), Links: make([][]api.Link, n)}
	for v := range n {
		f.Vars = append(f.Vars, string(rune('x'+v)))
		f.Order = append(f.Order, v)
		f.Parent = append(f.Parent, r.Intn(v+1)-1)
		for a := range 4 {
			if r.Intn(4) > 0 {
				p.Nodes[v] = append(p.Nodes[v], api.Link{A: a, B: a, N: uint64(1 + r.Intn(ways))})
			}
			for b := range 4 {
				if f.Parent[v] >= 0 && r.Intn(3) > 0 {
					p.Links[v] = append(p.Links[v], api.Link{A: a, B: b, N: uint64(1 + r.Intn(ways))})
				}
			}
		}
	}
	t, _ := tree.New(f, p)
	return t
}

// rows is all rows of a tree, in order.
func rows(t *tree.Tree) []api.Row {
	all := [][]int{nil}
	for range t.Len() {
		var longer [][]int
		for _, row := range all {
			for n := range 4 {
				longer = append(longer, append(slices.Clone(row), n))
			}
		}
		all = longer
	}
	var found []api.Row
	for _, nodes := range all {
		if row, ok := t.Row(nodes...); ok {
			found = append(found, row)
		}
	}
	return found
}

func TestCounts(t *testing.T) {
	r := rand.New(rand.NewSource(30))
	for range 300 {
		tr := random(r, 3)
		c := New(tr)
		all := rows(tr)
		var sum uint64
		for _, row := range all {
			sum += row.N
			if c.Behind(row.Nodes...) != 1 {
				t.Fatal(row)
			}
		}
		if c.All() != sum || c.Behind() != sum || !c.Exact() || c.Tree() != tr {
			t.Fatal(c.All(), sum)
		}
		for _, row := range all {
			for n := range row.Nodes {
				checkBehind(t, c, all, row.Nodes[:n])
			}
		}
		for range 10 {
			var guess []int
			for range r.Intn(tr.Len() + 2) {
				guess = append(guess, r.Intn(5))
			}
			checkBehind(t, c, all, guess)
		}
		checkSums(t, c, tr)
	}
}

// checkBehind holds Behind against all rows that begin with some nodes.
func checkBehind(t *testing.T, c *Counts, all []api.Row, begin []int) {
	t.Helper()
	var sum, ahead uint64
	for _, row := range all {
		if len(row.Nodes) >= len(begin) && slices.Equal(row.Nodes[:len(begin)], begin) {
			sum += row.N
		}
	}
	ahead = 1
	for i, n := range begin {
		above := -1
		if parent := c.Tree().Parent(i); parent >= 0 {
			above = begin[parent]
		}
		x, _ := c.Tree().Find(i, above, n)
		ahead *= max(x.N, 1)
	}
	if c.Behind(begin...)*ahead != sum {
		t.Fatal(begin, c.Behind(begin...), ahead, sum)
	}
}

func checkSums(t *testing.T, c *Counts, tr *tree.Tree) {
	t.Helper()
	for i := range tr.Len() {
		for above := -1; above <= 4; above++ {
			var sum uint64
			for _, x := range tr.Group(i, above) {
				sum += x.N * c.Below(i, x.B)
			}
			if c.Sum(i, above) != sum {
				t.Fatal(i, above)
			}
		}
		for node := -1; node <= 4; node++ {
			want := uint64(1)
			for _, k := range tr.Below(i) {
				want *= c.Sum(k, node)
			}
			in := slices.ContainsFunc(rows(tr), func(row api.Row) bool { return row.Nodes[i] == node })
			if !in {
				want = 0
			}
			if c.Below(i, node) != want {
				t.Fatal(i, node)
			}
		}
	}
}

func TestMost(t *testing.T) {
	f := api.Forest{Vars: []string{"x", "y", "z"}, Order: []int{0, 1, 2}, Parent: []int{-1, -1, 0}, Links: make([][]int, 3), Loops: make([][]int, 3)}
	node := func(n int, ways uint64) api.Link { return api.Link{A: n, B: n, N: ways} }
	p := api.Parts{Nodes: [][]api.Link{{node(0, 1<<31)}, {node(0, 1<<30), node(1, 1<<29)}, {node(5, 1)}}, Links: make([][]api.Link, 3)}
	p.Links[2] = []api.Link{{A: 0, B: 5, N: 1}}
	tr, _ := tree.New(f, p)
	if c := New(tr); c.All() != 1<<61+1<<60 || !c.Exact() {
		t.Error(c.All())
	}
	p.Links[2][0].N = 4
	tr, _ = tree.New(f, p)
	if c := New(tr); c.All() != api.Most || c.Exact() || c.Behind(0, 1) != 4 || c.Sum(0, 77) != 1<<33 {
		t.Error(c.All())
	}
}

func TestNone(t *testing.T) {
	if New(nil) != nil {
		t.Error("counts of a nil tree are not nil")
	}
	for _, c := range []*Counts{nil, New(nil)} {
		if c.All() != 0 || c.Behind() != 0 || c.Behind(0) != 0 || c.Below(0, 0) != 0 || c.Sum(0, -1) != 0 || c.Sum(-1, 0) != 0 || c.Exact() || c.Tree() != nil {
			t.Error(c)
		}
	}
	empty, _ := tree.New(api.Forest{}, api.Parts{})
	if c := New(empty); c.All() != 1 || !c.Exact() || c.Behind() != 1 || c.Behind(0) != 0 {
		t.Error("empty")
	}
	some := New(random(rand.New(rand.NewSource(1)), 2))
	for _, i := range []int{-1, 9, math.MaxInt, math.MinInt} {
		if some.Below(i, 0) != 0 || some.Sum(i, 0) != 0 || some.Sum(i, -1) != 0 {
			t.Error(i)
		}
	}
}
