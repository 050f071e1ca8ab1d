package engine

import (
	"bridleway/access"
	"bridleway/api"
	"bridleway/paths"
)

// mostCells is how many cells of rows of hops a teller keeps, about, before it begins anew.
const mostCells = 4000000

// teller makes answers within one call; rows of hops to one node are asked for again and again.
type teller struct {
	e     *Engine
	rows  map[end]*paths.Rows
	cells int
}

// end is a path that is told, and a node to which it leads.
type end struct{ path, to int }

func (e *Engine) newTeller() *teller {
	return &teller{e: e, rows: map[end]*paths.Rows{}}
}

// rowsTo is the rows of hops of a path to a node.
func (t *teller) rowsTo(path, to int) *paths.Rows {
	k := end{path, to}
	r, ok := t.rows[k]
	if ok {
		return r
	}
	p := t.e.told[path].path
	if t.cells += t.e.c.Nodes() * (p.Hops + 1); t.cells > mostCells {
		clear(t.rows)
		t.cells = 0
	}
	r, _ = paths.New(t.e.c, p, to, t.e.states)
	t.rows[k] = r
	return r
}

// answer is the one of a row's answers ahead of which there are rest: the last row of hops changes first.
func (t *teller) answer(row api.Row, rest uint64) api.Answer {
	nodes := t.e.p.Nodes(row)
	a := api.Answer{Nodes: nodes, Rows: make([][]api.Hop, len(t.e.told)), Cost: row.Cost + t.e.p.Base()}
	for i := len(t.e.told) - 1; i >= 0; i-- {
		x := t.e.told[i]
		rows := t.rowsTo(i, nodes[x.to])
		if n := rows.Count(nodes[x.from]); n > 0 {
			a.Rows[i], _ = rows.At(nodes[x.from], rest%n)
			rest /= n
		}
	}
	return a
}

// rest is how many answers of the same row stand ahead of one whose nodes are a row's.
func (t *teller) rest(a api.Answer) (uint64, bool) {
	if len(a.Rows) != len(t.e.told) {
		return 0, false
	}
	var digits, sizes []uint64
	for i, x := range t.e.told {
		rows := t.rowsTo(i, a.Nodes[x.to])
		rank, ok := rows.Rank(a.Nodes[x.from], a.Rows[i]...)
		if !ok {
			return 0, false
		}
		digits = append(digits, rank)
		sizes = append(sizes, rows.Count(a.Nodes[x.from]))
	}
	return access.Number(digits, sizes)
}
