package reduce_test

import (
	"math/rand"
	"slices"
	"testing"

	"bridleway/api"
	"bridleway/domain"
	. "bridleway/reduce"
)

func random(r *rand.Rand) (api.Forest, api.Parts) {
	n := r.Intn(5)
	f := api.Forest{Links: make([][]int, n), Loops: make([][]int, n), Parent: make([]int, n)}
	p := api.Parts{Nodes: make([][]api.Link, n), Links: make([][]api.Link, n)}
	numbers := r.Perm(n)
	for i, v := range numbers {
		f.Vars = append(f.Vars, string(rune('x'+i)))
		f.Order = append(f.Order, v)
		f.Parent[v] = -1
		if i > 0 && r.Intn(4) > 0 {
			f.Parent[v] = numbers[r.Intn(i)]
		}
	}
	for v := range n {
		for a := range 4 {
			if r.Intn(4) > 0 {
				p.Nodes[v] = append(p.Nodes[v], api.Link{A: a, B: a, Cost: r.Intn(3), N: 1})
			}
			for b := range 4 {
				if f.Parent[v] >= 0 && r.Intn(3) == 0 {
					p.Links[v] = append(p.Links[v], api.Link{A: a, B: b, Cost: r.Intn(3), N: 1})
				}
			}
		}
	}
	return f, p
}

func has(l []api.Link, a, b int) bool {
	return slices.ContainsFunc(l, func(x api.Link) bool { return x.A == a && x.B == b })
}

// rows is all rows, by variable.
func rows(f api.Forest, p api.Parts) [][]int {
	all := [][]int{make([]int, len(f.Vars))}
	for _, v := range f.Order {
		var longer [][]int
		for _, row := range all {
			for _, x := range p.Nodes[v] {
				if parent := f.Parent[v]; parent < 0 || has(p.Links[v], row[parent], x.A) {
					next := slices.Clone(row)
					next[v] = x.A
					longer = append(longer, next)
				}
			}
		}
		all = longer
	}
	return all
}

func TestOf(t *testing.T) {
	r := rand.New(rand.NewSource(28))
	none := 0
	for range 2000 {
		f, p := random(r)
		was := domain.Own(p)
		of, code := Of(f, p)
		all := rows(f, p)
		if code != api.OK || !domain.Good(f, of) || !domain.Same(p, was) || len(rows(f, of)) != len(all) {
			t.Fatal(f, p, of)
		}
		if None(f, p) != (len(all) == 0 && len(f.Vars) > 0) || Is(f, p) != domain.Same(of, p) || !Is(f, of) {
			t.Fatal(f, p, of)
		}
		if len(all) == 0 {
			none++
		}
		// Just what is in a row is left.
		for v := range f.Vars {
			for _, x := range p.Nodes[v] {
				in := slices.ContainsFunc(all, func(row []int) bool { return row[v] == x.A })
				if slices.Contains(of.Nodes[v], x) != in {
					t.Fatal(f, p, of)
				}
			}
			for _, x := range p.Links[v] {
				in := slices.ContainsFunc(all, func(row []int) bool { return row[v] == x.B && row[f.Parent[v]] == x.A })
				if slices.Contains(of.Links[v], x) != in {
					t.Fatal(f, p, of)
				}
			}
		}
		up, _ := Up(f, p)
		down, _ := Down(f, up)
		if domain.Size(of) > 0 && !domain.Same(down, of) {
			t.Fatal(f, p, down)
		}
	}
	if none < 100 {
		t.Error(none)
	}
}

func node(n int) api.Link    { return api.Link{A: n, B: n, N: 1} }
func link(a, b int) api.Link { return api.Link{A: a, B: b, N: 1} }

func some() (api.Forest, api.Parts) {
	f := api.Forest{Vars: []string{"x", "y"}, Order: []int{1, 0}, Parent: []int{1, -1}, Links: make([][]int, 2), Loops: make([][]int, 2)}
	p := api.Parts{
		Nodes: [][]api.Link{{node(0), node(1), node(2)}, {node(0), node(1), node(2)}},
		Links: [][]api.Link{{link(0, 0), link(0, 5), link(1, 1), link(4, 2)}, nil},
	}
	return f, p
}

func TestUpAndDown(t *testing.T) {
	f, p := some()
	up, code := Up(f, p)
	want := api.Parts{Nodes: [][]api.Link{{node(0), node(1), node(2)}, {node(0), node(1)}}, Links: [][]api.Link{{link(0, 0), link(1, 1)}, nil}}
	if code != api.OK || !domain.Same(up, want) {
		t.Error(up)
	}
	down, code := Down(f, p)
	want = api.Parts{Nodes: [][]api.Link{{node(0), node(1)}, {node(0), node(1), node(2)}}, Links: [][]api.Link{{link(0, 0), link(1, 1)}, nil}}
	if code != api.OK || !domain.Same(down, want) {
		t.Error(down)
	}
	up.Nodes[0][0].Cost = 9
	if _, again := some(); !domain.Same(p, again) {
		t.Error("shared")
	}
}

func TestOneRootWithoutNodesTakesAll(t *testing.T) {
	f := api.Forest{Vars: []string{"x", "y"}, Order: []int{0, 1}, Parent: []int{-1, -1}, Links: make([][]int, 2), Loops: make([][]int, 2)}
	p := api.Parts{Nodes: [][]api.Link{{node(3)}, nil}, Links: make([][]api.Link, 2)}
	of, code := Of(f, p)
	if code != api.OK || domain.Size(of) != 0 || len(of.Nodes) != 2 || len(of.Links) != 2 || !None(f, p) || Is(f, p) {
		t.Error(of)
	}
	if None(api.Forest{}, api.Parts{}) || !Is(api.Forest{}, api.Parts{}) {
		t.Error("no variables")
	}
}

func TestErrors(t *testing.T) {
	f, p := some()
	bad := domain.Own(p)
	bad.Links[1] = []api.Link{link(0, 0)}
	for i, x := range []struct {
		f api.Forest
		p api.Parts
	}{{f, bad}, {f, api.Parts{}}, {api.Forest{}, p}, {api.Forest{Vars: []string{"x"}}, api.Parts{}}} {
		of, code1 := Of(x.f, x.p)
		up, code2 := Up(x.f, x.p)
		down, code3 := Down(x.f, x.p)
		if code1 != api.ErrArg || code2 != api.ErrArg || code3 != api.ErrArg || len(of.Nodes)+len(up.Nodes)+len(down.Nodes) != 0 || Is(x.f, x.p) || None(x.f, x.p) {
			t.Error(i)
		}
	}
}
