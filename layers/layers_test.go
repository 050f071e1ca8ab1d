package layers_test

import (
	"slices"
	"testing"

	"bridleway/api"
	. "bridleway/layers"
	"bridleway/tree"
)

func TestOf(t *testing.T) {
	f := api.Forest{Vars: []string{"x", "y"}, Order: []int{1, 0}, Parent: []int{1, -1}, Links: make([][]int, 2), Loops: make([][]int, 2)}
	node := func(n int) api.Link { return api.Link{A: n, B: n, N: 1} }
	p := api.Parts{
		Nodes: [][]api.Link{{node(3), node(4)}, {node(0), node(1)}},
		Links: [][]api.Link{{{A: 0, B: 3, N: 1}, {A: 0, B: 4, N: 1}, {A: 1, B: 3, N: 1}}, nil},
	}
	tr, _ := tree.New(f, p)
	l := Of(tr)
	if len(l) != 2 || l[0].Parent != -1 || l[1].Parent != 0 || !slices.Equal(l[0].Below, []int{1}) || len(l[1].Below) != 0 {
		t.Fatal(l)
	}
	if !slices.Equal(l[0].Nodes, []int{0, 1}) || !slices.Equal(l[1].Nodes, []int{3, 4}) || len(l[0].Groups[Top]) != 2 || len(l[1].Groups[0]) != 2 || len(l[1].Groups[1]) != 1 {
		t.Error(l)
	}
	if len(Of(nil)) != 0 {
		t.Error("nil")
	}
}
