package mini

import (
	"slices"

	"bridleway/api"
)

// parting is the states of an automaton, and one more that stands for nowhere, in blocks that are split till no step tells two of a block apart. The states of the block b are list[first[b]:end[b]], the first mark[b] of them marked.
type parting struct {
	list, place, block []int
	first, end, mark   []int
	waits              []bool
	work               []int
}

// classes is of each state the number of its class.
func classes(d api.Dfa) []int {
	p := begin(d)
	ahead := aheads(d)
	for len(p.work) > 0 {
		b := p.work[len(p.work)-1]
		p.work = p.work[:len(p.work)-1]
		p.waits[b] = false
		// A copy: the block itself may be split meanwhile.
		states := slices.Clone(p.list[p.first[b]:p.end[b]])
		for i := range d.Syms {
			p.split(states, ahead[i])
		}
	}
	return p.numbers(len(d.Accept))
}

// begin is all states in two blocks: those that accept, and others.
func begin(d api.Dfa) *parting {
	n := len(d.Accept) + 1
	p := &parting{place: make([]int, n), block: make([]int, n)}
	for b := range 2 {
		p.first = append(p.first, len(p.list))
		for state := range n {
			accepts := state < n-1 && d.Accept[state]
			if accepts == (b == 1) {
				p.place[state], p.block[state] = len(p.list), b
				p.list = append(p.list, state)
			}
		}
		p.end = append(p.end, len(p.list))
		p.mark = append(p.mark, 0)
		p.waits = append(p.waits, true)
		p.work = append(p.work, b)
	}
	return p
}

// aheads is by step and state the states that go to it; what goes nowhere goes to the last one.
func aheads(d api.Dfa) [][][]int {
	nowhere := len(d.Accept)
	ahead := make([][][]int, len(d.Syms))
	for i := range d.Syms {
		ahead[i] = make([][]int, nowhere+1)
		for state, row := range d.Next {
			to := row[i]
			if to < 0 {
				to = nowhere
			}
			ahead[i][to] = append(ahead[i][to], state)
		}
		ahead[i][nowhere] = append(ahead[i][nowhere], nowhere)
	}
	return ahead
}

// split parts from each block those of it that go to one of some states.
func (p *parting) split(to []int, ahead [][]int) {
	var touched []int
	for _, t := range to {
		for _, state := range ahead[t] {
			// By one step a state goes to just one: none is marked twice.
			b := p.block[state]
			if p.mark[b] == 0 {
				touched = append(touched, b)
			}
			p.swap(p.place[state], p.first[b]+p.mark[b])
			p.mark[b]++
		}
	}
	for _, b := range touched {
		p.part(b)
	}
}

func (p *parting) swap(i, j int) {
	p.list[i], p.list[j] = p.list[j], p.list[i]
	p.place[p.list[i]], p.place[p.list[j]] = i, j
}

// part makes the marked states of a block one of their own; of two parts of a block that waits both wait, else the smaller one.
func (p *parting) part(b int) {
	marked := p.mark[b]
	p.mark[b] = 0
	size := p.end[b] - p.first[b]
	if marked == size {
		return
	}
	other := len(p.first)
	p.first = append(p.first, p.first[b])
	p.end = append(p.end, p.first[b]+marked)
	p.mark = append(p.mark, 0)
	p.waits = append(p.waits, false)
	p.first[b] += marked
	for _, state := range p.list[p.first[other]:p.end[other]] {
		p.block[state] = other
	}
	next := other
	if !p.waits[b] && marked > size-marked {
		next = b
	}
	p.waits[next] = true
	p.work = append(p.work, next)
}

// numbers is the blocks of the first n states, numbered as they come.
func (p *parting) numbers(n int) []int {
	number := slices.Repeat([]int{-1}, len(p.first))
	class := make([]int, n)
	next := 0
	for state := range n {
		b := p.block[state]
		if number[b] < 0 {
			number[b] = next
			next++
		}
		class[state] = number[b]
	}
	return class
}
