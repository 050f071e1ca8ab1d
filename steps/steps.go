// Package steps is what dag and short share: the hops between cells of a graph and an automaton, ahead and back.
package steps

import (
	"cmp"
	"slices"

	"bridleway/api"
	"bridleway/csr"
	"bridleway/dfa"
)

// Steps is a graph and an automaton; a cell is a node and a state of them.
type Steps struct {
	c      *csr.Csr
	d      api.Dfa
	number map[step]int
	into   map[int][]move
	from   [][]move
}

// step is a label's place, and whether edges of it are gone against.
type step struct {
	label int
	back  bool
}

// move is that a step, by its number, comes from a node, or from a state.
type move struct{ step, from int }

// Next is a hop, and the cell to which it leads.
type Next struct {
	Hop         api.Hop
	Node, State int
}

// New is a graph and a good automaton.
func New(c *csr.Csr, d api.Dfa) *Steps {
	s := &Steps{c: c, d: dfa.Own(d), number: map[step]int{}, into: map[int][]move{}, from: make([][]move, len(d.Accept))}
	for i, sym := range d.Syms {
		if label, ok := c.Label(sym.Label); ok {
			s.number[step{label, sym.Back}] = i
		}
	}
	for i := range d.Syms {
		for state, row := range d.Next {
			if to := row[i]; to >= 0 {
				s.from[to] = append(s.from[to], move{i, state})
			}
		}
	}
	return s
}

// Cells is how many cells there are.
func (s *Steps) Cells() int {
	return s.c.Nodes() * len(s.d.Accept)
}

// Cell is the number of a node and a state.
func (s *Steps) Cell(node, state int) int {
	return node*len(s.d.Accept) + state
}

// Parts is the node and the state of a cell.
func (s *Steps) Parts(cell int) (node, state int) {
	return cell / len(s.d.Accept), cell % len(s.d.Accept)
}

// Has tells whether there is a node and a state.
func (s *Steps) Has(node, state int) bool {
	return node >= 0 && node < s.c.Nodes() && state >= 0 && state < len(s.d.Accept)
}

// Accepts tells whether a state accepts.
func (s *Steps) Accepts(state int) bool {
	return s.d.Accept[state]
}

// Ends is the cells of a node whose states accept.
func (s *Steps) Ends(node int) []int {
	var l []int
	for state, ok := range s.d.Accept {
		if ok {
			l = append(l, s.Cell(node, state))
		}
	}
	return l
}

// Before tells of each hop to a cell the cell that it comes from.
func (s *Steps) Before(cell int, tell func(from int)) {
	node, state := s.Parts(cell)
	states := s.from[state]
	first := 0
	// Both lists rise by step.
	for _, m := range s.comes(node) {
		for first < len(states) && states[first].step < m.step {
			first++
		}
		for i := first; i < len(states) && states[i].step == m.step; i++ {
			tell(s.Cell(m.from, states[i].from))
		}
	}
}

// comes is each hop to a node that the automaton knows, by step.
func (s *Steps) comes(node int) []move {
	if l, ok := s.into[node]; ok {
		return l
	}
	var l []move
	add := func(a api.Arc, back bool) {
		if i, ok := s.number[step{a.Label, back}]; ok {
			l = append(l, move{i, a.To})
		}
	}
	for _, a := range s.c.In(node) {
		add(a, false)
	}
	for _, a := range s.c.Out(node) {
		add(a, true)
	}
	slices.SortFunc(l, func(x, y move) int { return cmp.Compare(x.step, y.step) })
	s.into[node] = l
	return l
}

// Forget lets all go that just Before needs.
func (s *Steps) Forget() {
	s.number, s.into, s.from = nil, nil, nil
}

// After is the hops from a cell, by rising Edge, not Back first.
func (s *Steps) After(node, state int) []Next {
	var l []Next
	for i, sym := range s.d.Syms {
		to := s.d.Next[state][i]
		if to < 0 {
			continue
		}
		for _, a := range s.c.Step(node, sym) {
			l = append(l, Next{Hop: api.Hop{Edge: a.Edge, Back: sym.Back}, Node: a.To, State: to})
		}
	}
	slices.SortFunc(l, func(x, y Next) int {
		if x.Hop.Edge == y.Hop.Edge && x.Hop.Back != y.Hop.Back {
			if y.Hop.Back {
				return -1
			}
			return 1
		}
		return cmp.Compare(x.Hop.Edge, y.Hop.Edge)
	})
	return l
}
