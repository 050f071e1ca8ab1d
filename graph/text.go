package graph

import (
	"strconv"
	"strings"

	"bridleway/api"
	"bridleway/value"
)

// What lines begin with.
const (
	nodeWord = "node "
	edgeWord = "edge "
)

// Print writes a good graph, a line for each node and edge.
func Print(g api.Graph) (string, api.Errno) {
	if _, code := Check(g); code != api.OK {
		return "", code
	}
	var b strings.Builder
	for _, n := range g.Nodes {
		b.WriteString(nodeWord + n.Label)
		for _, p := range n.Props {
			text, _ := value.Print(p.Value)
			b.WriteString(" " + p.Name + "=" + text)
		}
		b.WriteByte('\n')
	}
	for _, e := range g.Edges {
		b.WriteString(edgeWord + strconv.Itoa(e.From) + " " + strconv.Itoa(e.To))
		b.WriteString(" " + e.Label + " " + strconv.Itoa(e.Weight) + "\n")
	}
	return b.String(), api.OK
}

// Parse reads what Print writes.
func Parse(s string) (api.Graph, int, api.Errno) {
	var g api.Graph
	for line := 1; s != ""; line++ {
		text, rest, ended := strings.Cut(s, "\n")
		if !ended || !readLine(&g, text) {
			return api.Graph{}, line, api.ErrForm
		}
		s = rest
	}
	if _, code := Check(g); code != api.OK {
		return api.Graph{}, 0, code
	}
	return g, 0, api.OK
}

func readLine(g *api.Graph, line string) bool {
	if text, ok := strings.CutPrefix(line, nodeWord); ok {
		n, ok := readNode(text)
		g.Nodes = append(g.Nodes, n)
		return ok
	}
	text, ok := strings.CutPrefix(line, edgeWord)
	if !ok {
		return false
	}
	e, ok := readEdge(text)
	g.Edges = append(g.Edges, e)
	return ok
}

func readNode(s string) (api.Node, bool) {
	label, rest, more := strings.Cut(s, " ")
	n := api.Node{Label: label}
	for more {
		name, text, ok := strings.Cut(rest, "=")
		if !ok {
			return api.Node{}, false
		}
		v, size, code := value.Read(text)
		if code != api.OK {
			return api.Node{}, false
		}
		// Only what Print writes is a line: no noughts ahead.
		if written, _ := value.Print(v); written != text[:size] {
			return api.Node{}, false
		}
		n.Props = append(n.Props, api.Prop{Name: name, Value: v})
		rest = text[size:]
		if rest == "" {
			break
		}
		if rest, more = strings.CutPrefix(rest, " "); !more {
			return api.Node{}, false
		}
	}
	return n, true
}

func readEdge(s string) (api.Edge, bool) {
	first, s, _ := strings.Cut(s, " ")
	second, s, _ := strings.Cut(s, " ")
	label, third, _ := strings.Cut(s, " ")
	from, ok1 := readNumber(first)
	to, ok2 := readNumber(second)
	weight, ok3 := readNumber(third)
	if !ok1 || !ok2 || !ok3 {
		return api.Edge{}, false
	}
	return api.Edge{From: from, To: to, Label: label, Weight: weight}, true
}

// readNumber reads a number just as Print writes it: no noughts ahead.
func readNumber(s string) (int, bool) {
	n, err := strconv.Atoi(s)
	if err != nil || strconv.Itoa(n) != s {
		return 0, false
	}
	return n, true
}
