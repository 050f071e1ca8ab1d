package tree_test

import (
	"math"
	"math/rand"
	"slices"
	"testing"

	"bridleway/api"
	"bridleway/domain"
	. "bridleway/tree"
)

func random(r *rand.Rand) (api.Forest, api.Parts) {
	n := r.Intn(5)
	f := api.Forest{Links: make([][]int, n), Loops: make([][]int, n), Parent: make([]int, n)}
	p := api.Parts{Nodes: make([][]api.Link, n), Links: make([][]api.Link, n)}
	numbers := r.Perm(n)
	for i, v := range numbers {
		f.Vars = append(f.Vars, string(rune('x'+i)))
		f.Order = append(f.Order, v)
		f.Parent[v] = -1
		if i > 0 && r.Intn(4) > 0 {
			f.Parent[v] = numbers[r.Intn(i)]
		}
	}
	for v := range n {
		for a := range 4 {
			if r.Intn(4) > 0 {
				p.Nodes[v] = append(p.Nodes[v], api.Link{A: a, B: a, Cost: r.Intn(3), N: uint64(1 + r.Intn(2))})
			}
			for b := range 4 {
				if f.Parent[v] >= 0 && r.Intn(3) > 0 {
					p.Links[v] = append(p.Links[v], api.Link{A: a, B: b, Cost: r.Intn(3), N: uint64(1 + r.Intn(3))})
				}
			}
		}
	}
	return f, p
}

func find(l []api.Link, a, b int) (api.Link, bool) {
	i := slices.IndexFunc(l, func(x api.Link) bool { return x.A == a && x.B == b })
	if i < 0 {
		return api.Link{}, false
	}
	return l[i], true
}

// rows is all rows by place, with what each costs and in how many ways it is there.
func rows(f api.Forest, p api.Parts) []api.Row {
	all := []api.Row{{N: 1}}
	for _, v := range f.Order {
		var longer []api.Row
		for _, row := range all {
			for _, x := range p.Nodes[v] {
				next := api.Row{Nodes: append(slices.Clone(row.Nodes), x.A), Cost: row.Cost + x.Cost, N: row.N * x.N}
				if parent := f.Parent[v]; parent >= 0 {
					above := row.Nodes[slices.Index(f.Order, parent)]
					y, ok := find(p.Links[v], above, x.A)
					if !ok {
						continue
					}
					next.Cost += y.Cost
					next.N *= y.N
				}
				longer = append(longer, next)
			}
		}
		all = longer
	}
	return all
}

func same(a, b api.Row) bool {
	return slices.Equal(a.Nodes, b.Nodes) && a.Cost == b.Cost && a.N == b.N
}

func TestRows(t *testing.T) {
	r := rand.New(rand.NewSource(29))
	for range 800 {
		f, p := random(r)
		tr, code := New(f, p)
		if code != api.OK || tr.Len() != len(f.Vars) {
			t.Fatal(code)
		}
		all := rows(f, p)
		for _, row := range all {
			if got, ok := tr.Row(row.Nodes...); !same(got, row) || !ok {
				t.Fatal(row, got)
			}
		}
		for range 10 {
			var guess []int
			for range tr.Len() {
				guess = append(guess, r.Intn(4))
			}
			is := slices.ContainsFunc(all, func(row api.Row) bool { return slices.Equal(row.Nodes, guess) })
			if row, ok := tr.Row(guess...); ok != is || !ok && !same(row, api.Row{}) {
				t.Fatal(guess, ok)
			}
		}
		checkGroups(t, tr, f, all)
	}
}

func checkGroups(t *testing.T, tr *Tree, f api.Forest, all []api.Row) {
	t.Helper()
	size := 0
	for i := range tr.Len() {
		if v, ok := tr.Var(i); v != f.Vars[f.Order[i]] || !ok {
			t.Fatal(v)
		}
		parent := tr.Parent(i)
		if want := f.Parent[f.Order[i]]; parent < 0 && want >= 0 || parent >= 0 && f.Order[parent] != want || !slices.Contains(tr.Below(parent), i) || !slices.IsSorted(tr.Below(parent)) {
			t.Fatal(parent)
		}
		for above := range 4 {
			g := tr.Group(i, above)
			for b := -1; b <= 4; b++ {
				in := slices.ContainsFunc(all, func(row api.Row) bool {
					return row.Nodes[i] == b && (parent < 0 || row.Nodes[parent] == above)
				})
				x, ok := tr.Find(i, above, b)
				if ok != in || ok != slices.Contains(g, x) || ok && x.B != b || ok && parent >= 0 && x.A != above || ok && parent < 0 && x.A != b {
					t.Fatal(i, above, b, x, in)
				}
			}
			if !slices.IsSortedFunc(g, func(x, y api.Link) int { return x.B - y.B }) {
				t.Fatal(g)
			}
			if parent >= 0 || above == 0 {
				size += len(g)
			}
		}
	}
	if tr.Size() != size {
		t.Fatal(tr.Size(), size)
	}
}

func TestRootsHaveOneGroup(t *testing.T) {
	f := api.Forest{Vars: []string{"x"}, Order: []int{0}, Parent: []int{-1}, Links: make([][]int, 1), Loops: make([][]int, 1)}
	nodes := []api.Link{{A: 2, B: 2, Cost: 7, N: 1}, {A: 5, B: 5, N: 3}}
	tr, _ := New(f, api.Parts{Nodes: [][]api.Link{nodes}, Links: make([][]api.Link, 1)})
	for _, above := range []int{-1, 0, 2, math.MaxInt, math.MinInt} {
		if !slices.Equal(tr.Group(0, above), nodes) {
			t.Error(tr.Group(0, above))
		}
		if x, ok := tr.Find(0, above, 5); x != nodes[1] || !ok {
			t.Error(x, ok)
		}
	}
	tr.Group(0, 0)[0].B = 9
	nodes[1].Cost = 9
	if x, _ := tr.Find(0, 0, 5); x.Cost != 0 || tr.Group(0, 0)[0].B != 2 {
		t.Error("shared")
	}
}

func TestErrorsAndNone(t *testing.T) {
	f, p := random(rand.New(rand.NewSource(5)))
	bad := domain.Own(p)
	bad.Nodes = append(bad.Nodes, nil)
	if tr, code := New(f, bad); tr != nil || code != api.ErrArg {
		t.Error(code)
	}
	empty, code := New(api.Forest{}, api.Parts{})
	if row, ok := empty.Row(); code != api.OK || !ok || !same(row, api.Row{N: 1}) || empty.Len() != 0 || empty.Size() != 0 {
		t.Error(row, ok)
	}
	some, _ := New(f, p)
	for _, tr := range []*Tree{nil, empty, some} {
		for _, i := range []int{-1, tr.Len(), 9, math.MaxInt, math.MinInt} {
			v, ok := tr.Var(i)
			x, ok2 := tr.Find(i, 0, 0)
			row, ok3 := tr.Row(1, 2, 3, 4, 5, 6, 7, 8)
			if v != "" || ok || tr.Parent(i) != -1 || len(tr.Group(i, 0)) != 0 || x != (api.Link{}) || ok2 || !same(row, api.Row{}) || ok3 {
				t.Error(i)
			}
			if i != -1 && len(tr.Below(i)) != 0 {
				t.Error(i)
			}
		}
	}
	var tr *Tree
	if row, ok := tr.Row(); ok || !same(row, api.Row{}) || tr.Len() != 0 || tr.Size() != 0 || len(tr.Below(-1)) != 0 {
		t.Error("nil")
	}
}
