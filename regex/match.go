package regex

import "bridleway/api"

// What an instruction does: it takes a step, goes on at one of two places, or ends well.
const (
	opStep = iota
	opFork
	opEnd
)

// inst is an instruction of the machine that an expression is made to.
type inst struct {
	op    int
	sym   api.Sym
	to    int
	other int
}

// Match tells whether a row of steps matches a good expression.
func Match(r api.Regex, w ...api.Sym) bool {
	if !Good(r) {
		return false
	}
	m := newMachine(r)
	m.enter(0)
	for _, s := range w {
		m.step(s)
	}
	return m.marks[len(m.code)-1] == m.now
}

// Empty tells whether the row without steps matches.
func Empty(r api.Regex) bool {
	return Match(r)
}

// machine stands at several instructions at once; marks tells when each was entered last.
type machine struct {
	code  []inst
	marks []int
	now   int
	at    []int
}

func newMachine(r api.Regex) *machine {
	m := &machine{now: 1}
	m.build(r)
	m.put(inst{op: opEnd})
	m.marks = make([]int, len(m.code))
	return m
}

func (m *machine) put(i inst) int {
	m.code = append(m.code, i)
	return len(m.code) - 1
}

// jump is a fork both ways of which lead to one place.
func (m *machine) jump(to int) int {
	return m.put(inst{op: opFork, to: to, other: to})
}

func (m *machine) build(r api.Regex) {
	here := len(m.code)
	switch r.Kind {
	case api.RSym:
		m.put(inst{op: opStep, sym: r.Sym})
	case api.RSeq:
		for _, p := range r.Parts {
			m.build(p)
		}
	case api.RAlt:
		m.buildAlt(r.Parts)
	case api.RStar:
		m.put(inst{op: opFork, to: here + 1})
		m.build(r.Parts[0])
		m.jump(here)
		m.code[here].other = len(m.code)
	case api.RPlus:
		m.build(r.Parts[0])
		m.put(inst{op: opFork, to: here, other: len(m.code) + 1})
	case api.ROpt:
		m.put(inst{op: opFork, to: here + 1})
		m.build(r.Parts[0])
		m.code[here].other = len(m.code)
	}
}

func (m *machine) buildAlt(parts []api.Regex) {
	var ends []int
	for i, p := range parts {
		fork := -1
		if i < len(parts)-1 {
			fork = m.put(inst{op: opFork, to: len(m.code) + 1})
		}
		m.build(p)
		if fork >= 0 {
			ends = append(ends, m.jump(0))
			m.code[fork].other = len(m.code)
		}
	}
	for _, i := range ends {
		m.code[i].to, m.code[i].other = len(m.code), len(m.code)
	}
}

// enter stands at an instruction, and at all that forks lead to from it.
func (m *machine) enter(first int) {
	left := []int{first}
	for len(left) > 0 {
		i := left[len(left)-1]
		left = left[:len(left)-1]
		if m.marks[i] == m.now {
			continue
		}
		m.marks[i] = m.now
		switch m.code[i].op {
		case opStep:
			m.at = append(m.at, i)
		case opFork:
			left = append(left, m.code[i].other, m.code[i].to)
		}
	}
}

func (m *machine) step(s api.Sym) {
	was := m.at
	m.at = nil
	m.now++
	for _, i := range was {
		if m.code[i].sym == s {
			m.enter(i + 1)
		}
	}
}
