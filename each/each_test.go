package each_test

import (
	"math"
	"math/rand"
	"slices"
	"testing"

	"bridleway/api"
	. "bridleway/each"
	"bridleway/tree"
)

func random(r *rand.Rand) *tree.Tree {
	n := r.Intn(5)
	f := api.Forest{Links: make([][]int, n), Loops: make([][]int, n)}
	p := api.Parts{Nodes: make([][]api.Link, n), Links: make([][]api.Link, n)}
	for v := range n {
		f.Vars = append(f.Vars, string(rune('x'+v)))
		f.Order = append(f.Order, v)
		f.Parent = append(f.Parent, r.Intn(v+1)-1)
		for a := range 4 {
			if r.Intn(4) > 0 {
				p.Nodes[v] = append(p.Nodes[v], api.Link{A: a, B: a, Cost: r.Intn(3), N: uint64(1 + r.Intn(2))})
			}
			for b := range 4 {
				if f.Parent[v] >= 0 && r.Intn(3) > 0 {
					p.Links[v] = append(p.Links[v], api.Link{A: a, B: b, Cost: r.Intn(3), N: uint64(1 + r.Intn(2))})
				}
			}
		}
	}
	t, _ := tree.New(f, p)
	return t
}

// rows is all rows of a tree, in order.
func rows(t *tree.Tree) []api.Row {
	all := [][]int{nil}
	for range t.Len() {
		var longer [][]int
		for _, row := range all {
			for n := range 4 {
				longer = append(longer, append(slices.Clone(row), n))
			}
		}
		all = longer
	}
	var found []api.Row
	for _, nodes := range all {
		if row, ok := t.Row(nodes...); ok {
			found = append(found, row)
		}
	}
	return found
}

func same(a, b api.Row) bool {
	return slices.Equal(a.Nodes, b.Nodes) && a.Cost == b.Cost && a.N == b.N
}

func TestNextTellsAllRows(t *testing.T) {
	r := rand.New(rand.NewSource(31))
	for range 500 {
		tr := random(r)
		all := rows(tr)
		w := New(tr)
		bound := 2*tr.Len() + 1
		for i, want := range all {
			was := w.Steps()
			row, ok := w.Next()
			if !same(row, want) || !ok || w.Over() || w.Steps()-was > bound {
				t.Fatal(i, row, want, w.Steps()-was)
			}
			row.Nodes = append(row.Nodes[:0], slices.Repeat([]int{9}, cap(row.Nodes))...)
		}
		was := w.Steps()
		if row, ok := w.Next(); ok || !same(row, api.Row{}) || !w.Over() || w.Steps()-was > bound {
			t.Fatal(row)
		}
		was = w.Steps()
		w.Step()
		w.Next()
		if w.Steps() != was {
			t.Fatal("over")
		}
		checkAll(t, tr, all)
		checkTo(t, tr, all)
	}
}

func checkAll(t *testing.T, tr *tree.Tree, all []api.Row) {
	t.Helper()
	for _, most := range []int{-1, 0, 1, len(all) - 1, len(all), len(all) + 1, math.MaxInt} {
		want := all[:max(0, min(most, len(all)))]
		if got := All(tr, most); !slices.EqualFunc(got, want, same) {
			t.Fatal(most, got)
		}
	}
	row, ok := First(tr)
	if ok != (len(all) > 0) || ok && !same(row, all[0]) {
		t.Fatal(row)
	}
}

func checkTo(t *testing.T, tr *tree.Tree, all []api.Row) {
	t.Helper()
	w := New(tr)
	for i := len(all) - 1; i >= 0; i-- {
		if !w.To(all[i].Nodes...) || w.Over() {
			t.Fatal(all[i])
		}
		if w.To(append(slices.Clone(all[i].Nodes), 0)...) {
			t.Fatal("too many")
		}
		row, ok := w.Next()
		if ok != (i+1 < len(all)) || ok && !same(row, all[i+1]) {
			t.Fatal(i, row)
		}
	}
	guesses := [][]int{nil}
	for range tr.Len() {
		var longer [][]int
		for _, g := range guesses {
			for _, n := range []int{-1, 0, 2, 3, 9} {
				longer = append(longer, append(slices.Clone(g), n))
			}
		}
		guesses = longer
	}
	for _, g := range guesses {
		i, _ := slices.BinarySearchFunc(all, g, func(row api.Row, g []int) int {
			if slices.Compare(row.Nodes, g) <= 0 {
				return -1
			}
			return 1
		})
		row, ok := Behind(tr, g...)
		if ok != (i < len(all)) || ok && !same(row, all[i]) || !ok && !same(row, api.Row{}) {
			t.Fatal(g, row, ok)
		}
	}
	if row, ok := Behind(tr, slices.Repeat([]int{0}, tr.Len()+1)...); ok || !same(row, api.Row{}) {
		t.Fatal(row)
	}
}

// two is two places of two nodes each, apart.
func two() *tree.Tree {
	f := api.Forest{Vars: []string{"x", "y"}, Order: []int{0, 1}, Parent: []int{-1, -1}, Links: make([][]int, 2), Loops: make([][]int, 2)}
	nodes := []api.Link{{N: 1}, {A: 1, B: 1, N: 1}}
	t, _ := tree.New(f, api.Parts{Nodes: [][]api.Link{nodes, nodes}, Links: make([][]api.Link, 2)})
	return t
}

func TestSteps(t *testing.T) {
	w := New(two())
	// On, on: a row; the next: a row; back, the next, on: a row; the next: a row; back, back.
	want := []bool{false, true, true, false, false, true, true, false, false}
	for i, told := range want {
		if _, ok := w.Step(); ok != told || w.Steps() != i+1 || w.Over() != (i == len(want)-1) {
			t.Error(i, ok, w.Over())
		}
	}
	if !w.To(0, 1) || w.Over() || w.Steps() != len(want) {
		t.Error("to")
	}
	if row, ok := w.Next(); !ok || !slices.Equal(row.Nodes, []int{1, 0}) {
		t.Error(row)
	}
	if w.To(0, 2) || w.To(0) || w.To() {
		t.Error("no rows")
	}
	if row, ok := w.Next(); !ok || !slices.Equal(row.Nodes, []int{1, 1}) {
		t.Error(row)
	}
}

func TestWithoutPlacesAndNil(t *testing.T) {
	empty, _ := tree.New(api.Forest{}, api.Parts{})
	w := New(empty)
	if row, ok := w.Step(); !ok || !same(row, api.Row{N: 1}) || w.Over() {
		t.Error(row, ok)
	}
	if row, ok := w.Step(); ok || !same(row, api.Row{}) || !w.Over() || w.Steps() != 2 {
		t.Error(row, ok)
	}
	if !w.To() || w.Over() {
		t.Error("to")
	}
	if _, ok := w.Step(); ok || !w.Over() {
		t.Error("behind")
	}
	if _, ok := Behind(empty); ok || len(All(empty, 9)) != 1 {
		t.Error("behind")
	}
	for _, w := range []*Walk{nil, New(nil)} {
		row, ok := w.Step()
		next, ok2 := w.Next()
		if ok || ok2 || !w.Over() || w.Steps() != 0 || w.To() || !same(row, api.Row{}) || !same(next, api.Row{}) {
			t.Error("nil")
		}
	}
	row, ok := First(nil)
	behind, ok2 := Behind(nil)
	if ok || ok2 || !same(row, behind) || len(All(nil, 5)) != 0 {
		t.Error("nil")
	}
}
