package costs_test

import (
	"cmp"
	"math"
	"math/rand"
	"slices"
	"testing"

	"bridleway/api"
	. "bridleway/costs"
	"bridleway/each"
	"bridleway/tree"
)

func random(r *rand.Rand) *tree.Tree {
	n := r.Intn(5)
	f := api.Forest{Links: make([][]int, n), Loops: make([][]int, n)}
	p := api.Parts{Nodes: make([][]api.Link, n), Links: make([][]api.Link, n)}
	for v := range n {
		f.Vars = append(f.Vars, string(rune('x'+v)))
		f.Order = append(f.Order, v)
		f.Parent = append(f.Parent, r.Intn(v+1)-1)
		for a := range 4 {
			if r.Intn(4) > 0 {
				p.Nodes[v] = append(p.Nodes[v], api.Link{A: a, B: a, Cost: r.Intn(3), N: uint64(1 + r.Intn(2))})
			}
			for b := range 4 {
				if f.Parent[v] >= 0 && r.Intn(3) > 0 {
					p.Links[v] = append(p.Links[v], api.Link{A: a, B: b, Cost: r.Intn(4), N: uint64(1 + r.Intn(2))})
				}
			}
		}
	}
	t, _ := tree.New(f, p)
	return t
}

func same(a, b api.Row) bool {
	return slices.Equal(a.Nodes, b.Nodes) && a.Cost == b.Cost && a.N == b.N
}

// best is the cheapest row that begins with some nodes, by trying all.
func best(all []api.Row, begin []int) (api.Row, bool) {
	found := slices.DeleteFunc(slices.Clone(all), func(row api.Row) bool {
		return len(row.Nodes) < len(begin) || !slices.Equal(row.Nodes[:len(begin)], begin)
	})
	if len(found) == 0 {
		return api.Row{}, false
	}
	return slices.MinFunc(found, func(x, y api.Row) int {
		return cmp.Or(cmp.Compare(x.Cost, y.Cost), slices.Compare(x.Nodes, y.Nodes))
	}), true
}

func TestBest(t *testing.T) {
	r := rand.New(rand.NewSource(33))
	for range 500 {
		tr := random(r)
		c := New(tr)
		all := each.All(tr, math.MaxInt)
		want, ok := best(all, nil)
		if cost, some := c.All(); cost != want.Cost || some != ok || c.Tree() != tr {
			t.Fatal(cost, want)
		}
		begins := [][]int{nil, slices.Repeat([]int{0}, tr.Len()+1)}
		for _, row := range all {
			begins = append(begins, row.Nodes[:r.Intn(tr.Len()+1)])
		}
		for range 10 {
			var guess []int
			for range r.Intn(tr.Len() + 1) {
				guess = append(guess, r.Intn(6)-1)
			}
			begins = append(begins, guess)
		}
		for _, begin := range begins {
			want, ok := best(all, begin)
			if got, some := c.Best(begin...); !same(got, want) || some != ok {
				t.Fatal(begin, got, want)
			}
		}
		checkGroups(t, c)
	}
}

func checkGroups(t *testing.T, c *Costs) {
	t.Helper()
	tr := c.Tree()
	for i := range tr.Len() {
		for above := -1; above <= 4; above++ {
			want := tr.Group(i, above)
			for j, x := range want {
				below, ok := c.Below(i, x.B)
				sum := 0
				for _, k := range tr.Below(i) {
					least, _ := c.Least(k, x.B)
					sum += least
				}
				if !ok || below != sum {
					t.Fatal(i, x.B, below, sum)
				}
				want[j].Cost += below
			}
			slices.SortFunc(want, func(x, y api.Link) int { return cmp.Or(x.Cost-y.Cost, x.B-y.B) })
			got := c.Sorted(i, above)
			least, ok := c.Least(i, above)
			if !slices.Equal(got, want) || ok != (len(want) > 0) || ok && least != want[0].Cost || !ok && least != 0 {
				t.Fatal(i, above, got, want)
			}
			if ok {
				got[0].Cost = -5
				if c.Sorted(i, above)[0].Cost == -5 {
					t.Fatal("shared")
				}
			}
		}
		for _, node := range []int{-1, 9} {
			if cost, ok := c.Below(i, node); cost != 0 || ok {
				t.Fatal(node)
			}
		}
	}
}

func TestExample(t *testing.T) {
	f := api.Forest{Vars: []string{"x", "y"}, Order: []int{0, 1}, Parent: []int{-1, -1}, Links: make([][]int, 2), Loops: make([][]int, 2)}
	node := func(n, cost int) api.Link { return api.Link{A: n, B: n, Cost: cost, N: 1} }
	tr, _ := tree.New(f, api.Parts{Nodes: [][]api.Link{{node(0, 1), node(1, 0)}, {node(5, 0), node(6, 1), node(7, 2)}}, Links: make([][]api.Link, 2)})
	c := New(tr)
	if row, ok := c.Best(); !ok || row.Cost != 0 || !slices.Equal(row.Nodes, []int{1, 5}) {
		t.Error(row)
	}
	if row, ok := c.Best(0); !ok || row.Cost != 1 || !slices.Equal(row.Nodes, []int{0, 5}) {
		t.Error(row)
	}
}

func TestNone(t *testing.T) {
	if New(nil) != nil {
		t.Error("costs of a nil tree are not nil")
	}
	for _, c := range []*Costs{nil, New(nil)} {
		below, ok := c.Below(0, 0)
		least, ok2 := c.Least(0, 0)
		row, ok3 := c.Best()
		all, ok4 := c.All()
		if below != 0 || ok || least != 0 || ok2 || !same(row, api.Row{}) || ok3 || all != 0 || ok4 || len(c.Sorted(0, 0)) != 0 || c.Tree() != nil {
			t.Error(c)
		}
	}
	empty, _ := tree.New(api.Forest{}, api.Parts{})
	c := New(empty)
	if row, ok := c.Best(); !same(row, api.Row{N: 1}) || !ok {
		t.Error(row)
	}
	if all, ok := c.All(); all != 0 || !ok {
		t.Error(all, ok)
	}
	for _, i := range []int{-1, 9, math.MaxInt, math.MinInt} {
		if least, ok := c.Least(i, -1); least != 0 || ok || len(c.Sorted(i, -1)) != 0 {
			t.Error(i)
		}
	}
}
