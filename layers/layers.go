// Package layers is what counts and costs share: a tree, place by place, each group read once.
package layers

import (
	"slices"

	"bridleway/api"
	"bridleway/tree"
)

// Layer is a place: where its parent and what comes below it are, the nodes that it may have, rising, and its groups by the node above; Top for roots.
type Layer struct {
	Parent int
	Below  []int
	Nodes  []int
	Groups map[int][]api.Link
}

// Top is what stands for the node above a root.
const Top = -1

// Of is all places of a tree.
func Of(t *tree.Tree) []Layer {
	l := make([]Layer, t.Len())
	for i := range l {
		l[i] = Layer{Parent: t.Parent(i), Below: t.Below(i), Groups: map[int][]api.Link{}}
		aboves := []int{Top}
		if l[i].Parent >= 0 {
			aboves = l[l[i].Parent].Nodes
		}
		for _, above := range aboves {
			g := t.Group(i, above)
			l[i].Groups[above] = g
			for _, x := range g {
				l[i].Nodes = append(l[i].Nodes, x.B)
			}
		}
		slices.Sort(l[i].Nodes)
		l[i].Nodes = slices.Compact(l[i].Nodes)
	}
	return l
}
