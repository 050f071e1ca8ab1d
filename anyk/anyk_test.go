package anyk_test

import (
	"cmp"
	"math"
	"math/rand"
	"slices"
	"testing"

	. "bridleway/anyk"
	"bridleway/api"
	"bridleway/costs"
	"bridleway/each"
	"bridleway/heap"
	"bridleway/tree"
)

func random(r *rand.Rand) *costs.Costs {
	n := r.Intn(5)
	f := api.Forest{Links: make([][]int, n), Loops: make([][]int, n)}
	p := api.Parts{Nodes: make([][]api.Link, n), Links: make([][]api.Link, n)}
	for v := range n {
		f.Vars = append(f.Vars, string(rune('x'+v)))
		f.Order = append(f.Order, v)
		f.Parent = append(f.Parent, r.Intn(v+1)-1)
		for a := range 4 {
			if r.Intn(4) > 0 {
				p.Nodes[v] = append(p.Nodes[v], api.Link{A: a, B: a, Cost: r.Intn(3), N: uint64(1 + r.Intn(2))})
			}
			for b := range 4 {
				if f.Parent[v] >= 0 && r.Intn(3) > 0 {
					p.Links[v] = append(p.Links[v], api.Link{A: a, B: b, Cost: r.Intn(4), N: uint64(1 + r.Intn(2))})
				}
			}
		}
	}
	t, _ := tree.New(f, p)
	return costs.New(t)
}

func same(a, b api.Row) bool {
	return slices.Equal(a.Nodes, b.Nodes) && a.Cost == b.Cost && a.N == b.N
}

func order(x, y api.Row) int {
	return cmp.Or(cmp.Compare(x.Cost, y.Cost), slices.Compare(x.Nodes, y.Nodes))
}

func ranked(c *costs.Costs) []api.Row {
	all := each.All(c.Tree(), math.MaxInt)
	slices.SortFunc(all, order)
	return all
}

// stands is all rows that an item stands for.
func stands(c *costs.Costs, x api.Item) []api.Row {
	all := ranked(c)
	if c.Tree().Len() == 0 {
		return all
	}
	above := -1
	if parent := c.Tree().Parent(x.Place); parent >= 0 {
		above = x.Nodes[parent]
	}
	group := c.Sorted(x.Place, above)
	return slices.DeleteFunc(all, func(row api.Row) bool {
		rank := slices.IndexFunc(group, func(y api.Link) bool { return y.B == row.Nodes[x.Place] })
		return !slices.Equal(row.Nodes[:x.Place], x.Nodes[:x.Place]) || rank < x.Rank
	})
}

func TestNextTellsTheCheapestFirst(t *testing.T) {
	r := rand.New(rand.NewSource(35))
	for range 300 {
		c := random(r)
		want := ranked(c)
		x := New(c)
		for i, row := range want {
			if r.Intn(3) == 0 {
				again, code := From(c, x.Items()...)
				if code != api.OK {
					t.Fatal(code)
				}
				x = again
			}
			waiting := 0
			for _, item := range x.Items() {
				if !Good(c, item) {
					t.Fatal(item)
				}
				waiting += len(stands(c, item))
			}
			if waiting != len(want)-i || x.Len() != len(x.Items()) {
				t.Fatal(waiting, i)
			}
			if got, ok := x.Next(); !same(got, row) || !ok {
				t.Fatal(i, got, row)
			}
		}
		if row, ok := x.Next(); ok || !same(row, api.Row{}) || x.Len() != 0 {
			t.Fatal(row)
		}
		for _, most := range []int{-1, 0, 1, len(want) - 1, len(want), math.MaxInt} {
			if got := All(c, most); !slices.EqualFunc(got, want[:max(0, min(most, len(want)))], same) {
				t.Fatal(most, got)
			}
		}
	}
}

func TestGoodAndAfter(t *testing.T) {
	r := rand.New(rand.NewSource(36))
	goods := 0
	for range 400 {
		c := random(r)
		for _, row := range ranked(c) {
			x := api.Item{Cost: row.Cost, Nodes: row.Nodes, Place: r.Intn(c.Tree().Len()+2) - 1, Rank: r.Intn(5) - 1}
			good := isGood(c, x)
			after := After(c, x)
			if Good(c, x) != good || !good && after != nil {
				t.Fatal(x, good)
			}
			worse := x
			worse.Cost++
			if Good(c, worse) || After(c, worse) != nil {
				t.Fatal(worse)
			}
			if !good {
				continue
			}
			goods++
			var rest []api.Row
			for _, y := range after {
				if !Good(c, y) {
					t.Fatal(x, y)
				}
				rest = append(rest, stands(c, y)...)
			}
			slices.SortFunc(rest, order)
			all := slices.DeleteFunc(stands(c, x), func(row api.Row) bool { return slices.Equal(row.Nodes, x.Nodes) })
			if !slices.EqualFunc(rest, all, same) {
				t.Fatal(x, rest, all)
			}
		}
	}
	if goods < 100 {
		t.Error(goods)
	}
}

// isGood is Good, by looking at all rows.
func isGood(c *costs.Costs, x api.Item) bool {
	n := c.Tree().Len()
	if n == 0 {
		return x.Place == 0 && x.Rank == 0 && x.Cost == 0
	}
	if x.Place < 0 || x.Place >= n || x.Rank < 0 {
		return false
	}
	rows := stands(c, x)
	if len(rows) == 0 {
		return false
	}
	begin := slices.DeleteFunc(rows, func(row api.Row) bool { return row.Nodes[x.Place] != x.Nodes[x.Place] })
	first := len(begin) > 0 && slices.Equal(begin[0].Nodes, x.Nodes) && begin[0].Cost == x.Cost
	lower := x
	lower.Rank++
	behind := slices.ContainsFunc(stands(c, lower), func(row api.Row) bool { return row.Nodes[x.Place] == x.Nodes[x.Place] })
	return first && !behind
}

func two(t *testing.T) *costs.Costs {
	t.Helper()
	f := api.Forest{Vars: []string{"x", "y"}, Order: []int{0, 1}, Parent: []int{-1, -1}, Links: make([][]int, 2), Loops: make([][]int, 2)}
	node := func(n, cost int) api.Link { return api.Link{A: n, B: n, Cost: cost, N: 1} }
	tr, code := tree.New(f, api.Parts{Nodes: [][]api.Link{{node(0, 0), node(1, 1)}, {node(0, 0), node(1, 1), node(2, 2)}}, Links: make([][]api.Link, 2)})
	if code != api.OK {
		t.Fatal(code)
	}
	return costs.New(tr)
}

func TestExample(t *testing.T) {
	c := two(t)
	var told []int
	for _, row := range All(c, 9) {
		told = append(told, row.Cost)
	}
	if !slices.Equal(told, []int{0, 1, 1, 2, 2, 3}) {
		t.Error(told)
	}
	first := New(c).Items()[0]
	want := []api.Item{{Cost: 1, Nodes: []int{1, 0}, Place: 0, Rank: 1}, {Cost: 1, Nodes: []int{0, 1}, Place: 1, Rank: 1}}
	if !heap.Same(After(c, first), want) || first.Place != 0 || first.Rank != 0 {
		t.Error(After(c, first))
	}
}

func TestFromRefuses(t *testing.T) {
	c := two(t)
	first := New(c).Items()[0]
	after := After(c, first)
	for i, l := range [][]api.Item{{first, first}, {after[0], after[1]}, {{}}, {after[0], first}, {{Nodes: []int{0, 0}, Place: -1}}, {{Nodes: []int{0, 0}, Place: 2}}, {{Nodes: []int{0, 0}, Rank: 1}}, {{Nodes: []int{0, 0, 0}}}, make([]api.Item, 4001)} {
		if r, code := From(c, l...); r != nil || code != api.ErrToken {
			t.Error(i, code)
		}
	}
	if r, code := From(c, after[1], after[0]); r.Len() != 2 || code != api.OK {
		t.Error(code)
	}
	if r, code := From(c); r.Len() != 0 || code != api.OK {
		t.Error(code)
	}
}

func TestAsManyItemsAsMayBe(t *testing.T) {
	f := api.Forest{Vars: []string{"x", "y"}, Order: []int{0, 1}, Parent: []int{-1, -1}, Links: make([][]int, 2), Loops: make([][]int, 2)}
	p := api.Parts{Nodes: make([][]api.Link, 2), Links: make([][]api.Link, 2)}
	for i := range 4001 {
		p.Nodes[0] = append(p.Nodes[0], api.Link{A: i, B: i, N: 1})
	}
	p.Nodes[1] = []api.Link{{N: 1}, {A: 1, B: 1, Cost: 1, N: 1}}
	tr, _ := tree.New(f, p)
	c := costs.New(tr)
	r := New(c)
	for range 4001 {
		r.Next()
	}
	l := r.Items()
	if len(l) != 4001 {
		t.Fatal(len(l))
	}
	if r, code := From(c, l...); r != nil || code != api.ErrToken {
		t.Error(code)
	}
	if r, code := From(c, l[1:]...); r.Len() != 4000 || code != api.OK {
		t.Error(code)
	}
}

func TestNone(t *testing.T) {
	for _, c := range []*costs.Costs{nil, costs.New(nil)} {
		if r, code := From(c); r != nil || code != api.ErrToken {
			t.Error(code)
		}
		if Good(c, api.Item{}) || len(After(c, api.Item{}))+len(All(c, 5)) != 0 {
			t.Error("nil costs")
		}
	}
	for _, r := range []*Ranked{nil, New(nil), New(costs.New(nil))} {
		if row, ok := r.Next(); ok || !same(row, api.Row{}) || r.Len() != 0 || len(r.Items()) != 0 {
			t.Error("nil")
		}
	}
	empty, _ := tree.New(api.Forest{}, api.Parts{})
	c := costs.New(empty)
	if !Good(c, api.Item{}) || Good(c, api.Item{Rank: 1}) || Good(c, api.Item{Place: 1}) || Good(c, api.Item{Cost: 1}) || len(After(c, api.Item{})) != 0 || len(All(c, 5)) != 1 {
		t.Error("no places")
	}
	x := New(two(t))
	x.Items()[0].Nodes[0] = 1
	if x.Items()[0].Nodes[0] != 0 {
		t.Error("shared")
	}
}
