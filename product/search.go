package product

import (
	"slices"

	"bridleway/api"
	"bridleway/csr"
	"bridleway/dfa"
)

// world is a graph and an automaton at once: each of its cells is a node and a state.
type world struct {
	nodes, states int
	accept        []bool
	moves         [][]move
	rows          []row
}

// move is that a state goes to another one by the step of a number.
type move struct{ step, to int }

// row is, of one step, whereto it leads from each node, at the least weight: the arcs of the node n begin at starts[n]. A step that no edge has has no starts.
type row struct {
	starts []int
	arcs   []arc
}

type arc struct{ to, weight int }

func newWorld(c *csr.Csr, d api.Dfa) *world {
	w := &world{nodes: c.Nodes(), states: len(d.Accept), accept: slices.Clone(d.Accept), moves: make([][]move, len(d.Accept))}
	live := dfa.Live(d)
	for state, next := range d.Next {
		for step, to := range next {
			if to >= 0 && live[to] {
				w.moves[state] = append(w.moves[state], move{step, to})
			}
		}
	}
	for _, s := range d.Syms {
		w.rows = append(w.rows, newRow(c, s))
	}
	return w
}

func newRow(c *csr.Csr, s api.Sym) row {
	if _, ok := c.Label(s.Label); !ok {
		return row{}
	}
	var r row
	for n := range c.Nodes() {
		r.starts = append(r.starts, len(r.arcs))
		last := -1
		// Arcs rise by To, and then Weight: the first one to a node costs least.
		for _, a := range c.Step(n, s) {
			if a.To != last {
				r.arcs = append(r.arcs, arc{a.To, a.Weight})
				last = a.To
			}
		}
	}
	r.starts = append(r.starts, len(r.arcs))
	return r
}

func (w *world) cells() int {
	return w.nodes * w.states
}

func (w *world) cell(node, state int) int {
	return node*w.states + state
}

// each tells the cells to which one hop leads from a cell, and what it costs.
func (w *world) each(cell int, tell func(other, weight int)) {
	node := cell / w.states
	for _, m := range w.moves[cell%w.states] {
		r := w.rows[m.step]
		if r.starts == nil {
			continue
		}
		for _, a := range r.arcs[r.starts[node]:r.starts[node+1]] {
			tell(w.cell(a.to, m.to), a.weight)
		}
	}
}

// search finds the least costs from one node after the other. What it wrote is wiped each time, so that a search costs no more than it sees.
type search struct {
	w     *world
	cost  []int
	seen  []int
	best  []int
	queue []entry
}

// entry is a cell that waits, at a cost.
type entry struct{ cost, cell int }

func newSearch(w *world) *search {
	return &search{w: w, cost: slices.Repeat([]int{-1}, w.cells()), best: slices.Repeat([]int{-1}, w.nodes)}
}

func (s *search) reach(from int) []api.Link {
	s.offer(s.w.cell(from, 0), 0)
	for len(s.queue) > 0 {
		e := s.pop()
		if e.cost > s.cost[e.cell] {
			continue
		}
		s.w.each(e.cell, func(other, weight int) { s.offer(other, e.cost+weight) })
	}
	return s.links(from)
}

func (s *search) offer(cell, cost int) {
	old := s.cost[cell]
	if old >= 0 && old <= cost {
		return
	}
	if old < 0 {
		s.seen = append(s.seen, cell)
	}
	s.cost[cell] = cost
	s.push(entry{cost, cell})
}

// links tells what was found, and wipes it.
func (s *search) links(from int) []api.Link {
	var nodes []int
	for _, cell := range s.seen {
		node := cell / s.w.states
		if s.w.accept[cell%s.w.states] {
			if s.best[node] < 0 {
				nodes = append(nodes, node)
				s.best[node] = s.cost[cell]
			}
			s.best[node] = min(s.best[node], s.cost[cell])
		}
		s.cost[cell] = -1
	}
	s.seen = s.seen[:0]
	slices.Sort(nodes)
	l := make([]api.Link, len(nodes))
	for i, node := range nodes {
		l[i] = api.Link{A: from, B: node, Cost: s.best[node], N: 1}
		s.best[node] = -1
	}
	return l
}

func (s *search) push(e entry) {
	s.queue = append(s.queue, e)
	i := len(s.queue) - 1
	for i > 0 {
		above := (i - 1) / 2
		if s.queue[above].cost <= s.queue[i].cost {
			return
		}
		s.queue[above], s.queue[i] = s.queue[i], s.queue[above]
		i = above
	}
}

func (s *search) pop() entry {
	first := s.queue[0]
	last := len(s.queue) - 1
	s.queue[0] = s.queue[last]
	s.queue = s.queue[:last]
	i := 0
	for {
		least := i
		for below := 2*i + 1; below <= 2*i+2 && below < last; below++ {
			if s.queue[below].cost < s.queue[least].cost {
				least = below
			}
		}
		if least == i {
			return first
		}
		s.queue[least], s.queue[i] = s.queue[i], s.queue[least]
		i = least
	}
}
