package steps_test

import (
	"math/rand"
	"slices"
	"testing"

	"bridleway/api"
	"bridleway/csr"
	"bridleway/dfa"
	"bridleway/regex"
	. "bridleway/steps"
)

func TestBeforeIsAfterTurnedRound(t *testing.T) {
	r := rand.New(rand.NewSource(30))
	for range 200 {
		var g api.Graph
		for range 4 {
			g.Nodes = append(g.Nodes, api.Node{Label: "n"})
		}
		for range r.Intn(10) {
			g.Edges = append(g.Edges, api.Edge{From: r.Intn(4), To: r.Intn(4), Label: []string{"a", "b", "c"}[r.Intn(3)]})
		}
		c, _ := csr.New(g)
		x, _, _ := regex.Parse([]string{"a*", "(a|^a)*.b", "a.(b|^c)*", "d"}[r.Intn(4)])
		d, _ := dfa.Of(x, 100)
		s := New(c, d)
		ahead, back := make(map[[2]int]int), make(map[[2]int]int)
		for cell := range s.Cells() {
			node, state := s.Parts(cell)
			l := s.After(node, state)
			for _, n := range l {
				ahead[[2]int{cell, s.Cell(n.Node, n.State)}]++
			}
			if !slices.IsSortedFunc(l, func(x, y Next) int { return x.Hop.Edge - y.Hop.Edge }) {
				t.Fatal(l)
			}
			s.Before(cell, func(from int) { back[[2]int{from, cell}]++ })
		}
		if len(ahead) != len(back) {
			t.Fatal(ahead, back)
		}
		for k, n := range ahead {
			if back[k] != n {
				t.Fatal(k, n, back[k])
			}
		}
	}
}
