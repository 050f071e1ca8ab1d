package plan

import (
	"slices"

	"bridleway/api"
	"bridleway/each"
	"bridleway/tree"
)

// nodes is the nodes of a row of variables that are told, 0 behind the last one.
type nodes [api.MaxVars]int

// told is what a row costs at least, and in how many ways it is there.
type told struct {
	cost int
	n    uint64
}

// fillTable finds all rows of the variables that are told, and makes a tree of one place with a node for each.
func (p *Plan) fillTable(f api.Forest, parts api.Parts, cells int) api.Errno {
	whole, code := tree.New(f, parts)
	if code != api.OK {
		return code
	}
	found, code := p.findRows(whole, cells)
	if code != api.OK {
		return code
	}
	all := make([]nodes, 0, len(found))
	for row := range found {
		all = append(all, row)
	}
	slices.SortFunc(all, func(x, y nodes) int { return slices.Compare(x[:], y[:]) })
	var links []api.Link
	for k, row := range all {
		p.rows = append(p.rows, slices.Clone(row[:p.wide]))
		links = append(links, api.Link{A: k, B: k, Cost: found[row].cost, N: found[row].n})
	}
	one := api.Forest{Vars: []string{"row"}, Order: []int{0}, Parent: []int{-1}, Links: make([][]int, 1), Loops: make([][]int, 1)}
	p.t, code = tree.New(one, api.Parts{Nodes: [][]api.Link{links}, Links: make([][]api.Link, 1)})
	return code
}

// findRows is the rows of a plan, each with what the cheapest row of the tree costs that it is left of.
func (p *Plan) findRows(whole *tree.Tree, cells int) (map[nodes]told, api.Errno) {
	var places []int
	for i := range whole.Len() {
		if v, _ := whole.Var(i); slices.Contains(p.columns[:p.wide], v) {
			places = append(places, i)
		}
	}
	found := map[nodes]told{}
	w := each.New(whole)
	for rows := 0; ; rows++ {
		row, ok := w.Next()
		if !ok {
			break
		}
		if rows == cells {
			return nil, api.ErrCells
		}
		var key nodes
		for i, place := range places {
			key[i] = row.Nodes[place]
		}
		old, seen := found[key]
		if !seen || row.Cost < old.cost {
			found[key] = told{row.Cost, row.N}
		}
	}
	if len(found) > api.MaxNodes {
		return nil, api.ErrCells
	}
	return found, api.OK
}
