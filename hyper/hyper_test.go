package hyper_test

import (
	"math/rand"
	"slices"
	"testing"

	"bridleway/api"
	. "bridleway/hyper"
)

func random(r *rand.Rand) api.Hyper {
	h := api.Hyper{N: 1 + r.Intn(5)}
	for range r.Intn(6) {
		var edge []int
		for range r.Intn(4) {
			edge = append(edge, r.Intn(h.N))
		}
		h.Edges = append(h.Edges, edge)
	}
	return h
}

// someTree tells whether any parents make a tree.
func someTree(h api.Hyper, parent []int) bool {
	if len(parent) == len(h.Edges) {
		return Tree(h, parent)
	}
	for p := -1; p < len(h.Edges); p++ {
		if someTree(h, append(parent, p)) {
			return true
		}
	}
	return false
}

// plainTree is what Tree says, by looking at each two edges.
func plainTree(h api.Hyper, parent []int) bool {
	roots := 0
	for i := range parent {
		at := i
		for n := 0; at >= 0 && n <= len(parent); n++ {
			at = parent[at]
		}
		if at >= 0 {
			return false
		}
		if parent[i] < 0 {
			roots++
		}
	}
	if len(parent) > 0 && roots != 1 {
		return false
	}
	for v := range h.N {
		apart := 0
		for i, edge := range h.Edges {
			if slices.Contains(edge, v) && (parent[i] < 0 || !slices.Contains(h.Edges[parent[i]], v)) {
				apart++
			}
		}
		if apart > 1 {
			return false
		}
	}
	return true
}

func TestJoin(t *testing.T) {
	r := rand.New(rand.NewSource(18))
	cycles := 0
	for range 1500 {
		h := random(r)
		parent, code := Join(h)
		left := Left(h)
		if Acyclic(h) != (code == api.OK) || (len(left) > 1) != (code == api.ErrCycle) || !slices.IsSorted(left) {
			t.Fatal(h, code, left)
		}
		if code == api.OK && !Tree(h, parent) || code != api.OK && parent != nil {
			t.Fatal(h, parent)
		}
		if len(h.Edges) <= 4 && someTree(h, nil) != Acyclic(h) {
			t.Fatal(h)
		}
		if code == api.ErrCycle {
			cycles++
		}
		guess := make([]int, len(h.Edges))
		for i := range guess {
			guess[i] = r.Intn(len(guess)+1) - 1
		}
		if Tree(h, guess) != plainTree(h, guess) {
			t.Fatal(h, guess)
		}
	}
	if cycles == 0 {
		t.Error("no cycles")
	}
}

func TestExamples(t *testing.T) {
	triangle := api.Hyper{N: 3, Edges: [][]int{{0, 1}, {1, 2}, {2, 0}}}
	if l, code := Join(triangle); l != nil || code != api.ErrCycle || !slices.Equal(Left(triangle), []int{0, 1, 2}) {
		t.Error(l, code)
	}
	whole := With(triangle, 0, 1, 2)
	if l, code := Join(whole); !slices.Equal(l, []int{3, 3, 3, -1}) || code != api.OK || len(triangle.Edges) != 3 {
		t.Error(l, code)
	}
	if l, code := Join(api.Hyper{}); len(l) != 0 || code != api.OK || !Tree(api.Hyper{}, nil) || len(Left(api.Hyper{})) != 0 {
		t.Error(l, code)
	}
	if l, _ := Join(api.Hyper{N: 2, Edges: [][]int{{0}}}); !slices.Equal(l, []int{-1}) {
		t.Error(l)
	}
}

func TestOrderOfEars(t *testing.T) {
	// 0 1 shares just 1 with 1 2, and goes; then 1 2 shares just 2 with 2 3.
	chain := api.Hyper{N: 4, Edges: [][]int{{0, 1}, {1, 2}, {2, 3}}}
	if l, _ := Join(chain); !slices.Equal(l, []int{1, 2, -1}) {
		t.Error(l)
	}
	// 1 2 shares with both, so 0 1 goes first; then 1 2 is the first again.
	star := api.Hyper{N: 4, Edges: [][]int{{1, 2}, {0, 1}, {2, 3}}}
	if l, _ := Join(star); !slices.Equal(l, []int{2, 0, -1}) {
		t.Error(l)
	}
	// What shares nothing fits below the first other one.
	apart := api.Hyper{N: 3, Edges: [][]int{{0}, {1}, {2}}}
	if l, _ := Join(apart); !slices.Equal(l, []int{1, 2, -1}) {
		t.Error(l)
	}
	same := api.Hyper{N: 2, Edges: [][]int{{0, 1}, {1, 0}, {0, 1}}}
	if l, _ := Join(same); !slices.Equal(l, []int{1, 2, -1}) {
		t.Error(l)
	}
}

func TestTreeRefuses(t *testing.T) {
	h := api.Hyper{N: 3, Edges: [][]int{{0, 1}, {1, 2}}}
	for _, parent := range [][]int{nil, {-1}, {-1, -1}, {1, 0}, {0, -1}, {2, -1}, {-2, 0}, {-1, 0, 0}, {-1, 1}, {1, 2}, {1, -2}, {1, 99}, {-2, -1}, {-1, 5}} {
		if Tree(h, parent) {
			t.Error(parent)
		}
	}
	if !Tree(h, []int{-1, 0}) || !Tree(h, []int{1, -1}) {
		t.Error("tree")
	}
}

func TestGoodAndParts(t *testing.T) {
	edges := func(n int) [][]int { return make([][]int, n) }
	for _, h := range []api.Hyper{{}, {N: 64, Edges: edges(64)}, {N: 2, Edges: [][]int{{1, 1, 0, 1}}}} {
		if !Good(h) {
			t.Error(h)
		}
	}
	for _, h := range []api.Hyper{{N: -1}, {N: 65}, {Edges: edges(65)}, {N: 2, Edges: [][]int{{2}}}, {N: 2, Edges: [][]int{{-1}}}} {
		l, code := Join(h)
		if Good(h) || l != nil || code != api.ErrArg || Acyclic(h) || Tree(h, make([]int, len(h.Edges))) || len(Parts(h))+len(Left(h)) != 0 {
			t.Error(h)
		}
	}
	h := api.Hyper{N: 7, Edges: [][]int{{5, 3}, {3, 6}, {}, {1}, {2, 0, 4}}}
	if !slices.Equal(Parts(h), []int{0, 1, 0, 3, 0, 3, 3}) {
		t.Error(Parts(h))
	}
	more := With(h, 1)
	more.Edges[0][0] = 0
	if h.Edges[0][0] != 5 || len(With(api.Hyper{N: -5}).Edges) != 1 {
		t.Error("shared")
	}
	if !slices.Equal(Parts(api.Hyper{N: 3, Edges: [][]int{{2, 1}, {1, 0}}}), []int{0, 0, 0}) {
		t.Error("parts")
	}
}
