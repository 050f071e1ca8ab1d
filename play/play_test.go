package play_test

import (
	"slices"
	"strconv"
	"strings"
	"testing"

	"bridleway/api"
	"bridleway/graph"
	. "bridleway/play"
	"bridleway/script"
)

// play runs a script, its lines parted by semicolons, and holds what it tells against lines parted so, too.
func play(t *testing.T, text, want string) {
	t.Helper()
	script := strings.ReplaceAll(text, "; ", "\n") + "\n"
	l, at, code := Run(script, 1000000)
	if got := strings.Join(l, "; "); got != want || at != 0 || code != api.OK {
		t.Errorf("%s\n got %s\nwant %s\n%d %v", text, got, want, at, code)
	}
}

const three = "node A; node A p=1; node B; edge 0 1 a 3; edge 1 2 a 4; edge 0 2 b 5; "
const threeLines = "node 0; node 1; node 2; edge 0; edge 1; edge 2; "

func TestExample(t *testing.T) {
	play(t, "node A; query MATCH (x) RETURN x; page 5", "node 0; columns x; row 0 cost 0; end")
}

func TestGraphs(t *testing.T) {
	play(t, three+"graph", threeLines+"node A; node A p=1; node B; edge 0 1 a 3; edge 1 2 a 4; edge 0 2 b 5")
	play(t, three+"drop 0; drop 2; drop 1; graph; edge 0 2 c 1", threeLines+"edges 2; error 4; edges 1; node A; node A p=1; node B; edge 1 2 a 4; edge 1")
	play(t, "graph; edge 0 0 a 1; drop 0; node A; edge 0 1 a 1; edge 1 0 a 1; edge 0 0 a 1; clear; graph; edge 0 0 a 1", "error 1; error 4; node 0; error 1; error 1; edge 0; clear; error 1")
}

func TestLimits(t *testing.T) {
	play(t, three+"limits 0 5; limits 1 0; limits 1001 5; limits 5 1000001; limits 1 5; query MATCH (x)-[a.a]->(y) RETURN x; query MATCH (x)-[a]->(y) RETURN x; limits 2 8; query MATCH (x)-[a]->(y) RETURN x; clear; node A; query MATCH (x)-[a.a.a]->(y) RETURN x",
		threeLines+"error 1; error 1; error 1; error 1; limits 1 5; error 11 0; error 11 0; limits 2 8; columns x; clear; node 0; columns x")
	// 40 states and no more.
	long := "query MATCH (x)-[a" + strings.Repeat(".a", 38) + "]->(y) RETURN x"
	play(t, "node A; "+long+"; "+strings.Replace(long, "a.", "a.a.", 1), "node 0; columns x; error 11 0")
}

func TestPages(t *testing.T) {
	play(t, three+"query MATCH (x)-[r: a+ 2]->(y) RETURN y, r, x; columns; count; page 2; save k; page 0; page 5; page 5; page 1000; page 1001; back k; page 5; start; page 1; at 2; at 3; explain",
		threeLines+"columns y, r, x; columns y, r, x; count 3, told 3; row 1, +0, 0 cost 0; row 2, +0 +1, 0 cost 0; more; save k; more; row 2, +1, 1 cost 0; end; end; end; error 1; back k; row 2, +1, 1 cost 0; end; start; row 1, +0, 0 cost 0; more; row 2, +1, 1 cost 0; error 4; query MATCH (x), (y), (x)-[r: a+ 2]->(y) RETURN y, r, x; columns x, y, r; way tree; place 0 -1; place 1 0; size 5")
	play(t, three+"query MATCH (x)-[a]->(y)-[a]->(z) RETURN z, x ORDER BY COST; page 5; page 1001; at 0; count", threeLines+"columns z, x; row 2, 0 cost 7; end; error 1; error 10; count 1, told 1")
	play(t, three+"query MATCH (x) RETURN x SKIP 1 LIMIT 1; count; page 1001; page 0; page 9; at 0; at 1", threeLines+"columns x; count 3, told 1; error 1; more; row 1 cost 0; end; row 1 cost 0; error 4")
	play(t, three+"query MATCH (x) RETURN x COUNT; count; page 1; page 1001; at 0", threeLines+"columns x; count 3, told 3; error 10; error 1; error 10")
	play(t, three+"query MATCH (x) RETURN x ORDER BY COST SKIP 9; page 0; save e; start; page 1; back e; page 3", threeLines+"columns x; end; save e; start; end; back e; end")
}

func TestCountsThatAreTooMany(t *testing.T) {
	loops := strings.Repeat("edge 0 0 a 1; ", 5)
	told := ""
	for i := range 5 {
		told += "edge " + strconv.Itoa(i) + "; "
	}
	play(t, "node A; "+loops+"query MATCH (x)-[r: a* 30]->(x) RETURN x, r; count; query MATCH (x)-[r: a* 30]->(x) RETURN r, x LIMIT 2; count; page 9",
		"node 0; "+told+"columns x, r; count 4611686018427387904 or more; columns r, x; count 4611686018427387904 or more, told 2; row , 0 cost 0; row +0, 0 cost 0; end")
}

func TestErrorsOfQueries(t *testing.T) {
	play(t, "start; save a; back a; page 1; at 0; count; columns; explain; node A; query MATCH (x; query MATCH (x) RETURN y; query ; query MATCH (x) RETURN x; query MATCH ;; count",
		"error 10; error 10; error 10; error 10; error 10; error 10; error 10; error 10; node 0; error 7 8; error 8 0; error 7 0; columns x; error 2 6; error 10")
}

func TestChangesForgetTheQuery(t *testing.T) {
	for _, change := range []string{"node A", "edge 0 0 a 1", "drop 0", "clear"} {
		l, _, _ := Run("node A\nedge 0 0 a 1\nquery MATCH (x) RETURN x\nsave k\n"+change+"\ncount\n", 99)
		if l[len(l)-1] != "error 10" {
			t.Error(change, l)
		}
	}
	for _, other := range []string{"edge 0 9 a 1", "drop 7", "limits 0 0", "limits 9 9", "graph", "meter"} {
		l, _, _ := Run("node A\nedge 0 0 a 1\nquery MATCH (x) RETURN x\nsave k\n"+other+"\nback k\n", 99)
		if l[len(l)-1] != "back k" {
			t.Error(other, l)
		}
	}
	play(t, "node A; query MATCH (x) RETURN x; save k; query MATCH (x) RETURN x; back k", "node 0; columns x; save k; columns x; error 4")
}

func TestMeter(t *testing.T) {
	play(t, "node A; node A; meter; query MATCH (x) RETURN x; page 9; at 0; meter", "node 0; node 1; meter 1; node 2; all 3; columns x; row 0 cost 0; row 1 cost 0; end; row 0 cost 0; at 1; meter 2; node 2; page 1; query 1; row 3; all 10")
	p, code := New(7)
	if code != api.OK || p.Left() != 7 {
		t.Fatal(code)
	}
	do := func(line, want string) {
		t.Helper()
		c, _ := script.Command(line)
		if got := strings.Join(p.Do(c), "; "); got != want {
			t.Error(line, got)
		}
	}
	do("node A", "node 0")
	do("node A", "node 1")
	do("", "error 2")
	do("query MATCH (x) RETURN x", "columns x")
	do("page 1", "row 0 cost 0; more")
	// One is left for the command, and none for its row: one stands where one stood.
	if p.Left() != 2 {
		t.Error(p.Left())
	}
	do("at 5", "error 4")
	do("page 1", "full")
	do("start", "full")
	if p.Left() != 0 || !p.Asked() || len(p.Graph().Nodes) != 2 {
		t.Error(p.Left())
	}
	l, _, _ := Run("node A\nnode A\nnode A\n", 2)
	if !slices.Equal(l, []string{"node 0", "node 1", "full"}) {
		t.Error(l)
	}
	l, _, _ = Run("node A\nnode A\nquery MATCH (x) RETURN x\npage 2\npage 1\nclear\n", 5)
	if !slices.Equal(l, []string{"node 0", "node 1", "columns x", "full", "full", "full"}) {
		t.Error(l)
	}
}

func TestAPageThatIsFullStandsStill(t *testing.T) {
	// Three nodes, a query, and two pages: of nine that may be counted three are left for rows.
	l, _, _ := Run("node A\nnode A\nnode A\nquery MATCH (x) RETURN x\npage 3\npage 1\n", 8)
	want := []string{"node 0", "node 1", "node 2", "columns x", "row 0 cost 0", "row 1 cost 0", "row 2 cost 0", "end", "full"}
	if !slices.Equal(l, want) {
		t.Error(l)
	}
	l, _, _ = Run("node A\nnode A\nnode A\nquery MATCH (x) RETURN x\npage 3\npage 1\n", 7)
	want = []string{"node 0", "node 1", "node 2", "columns x", "full", "row 0 cost 0", "more"}
	if !slices.Equal(l, want) {
		t.Error(l)
	}
}

func TestSaves(t *testing.T) {
	p, _ := New(1000)
	p.Do(api.Command{Kind: api.CNode, Node: api.Node{Label: "A"}})
	p.Do(api.Command{Kind: api.CQuery, Text: "MATCH (x) RETURN x"})
	for i := range api.MaxMarks {
		if l := p.Do(api.Command{Kind: api.CSave, Text: "m" + strconv.Itoa(i)}); l[0] != "save m"+strconv.Itoa(i) {
			t.Fatal(l)
		}
	}
	if l := p.Do(api.Command{Kind: api.CSave, Text: "more"}); !slices.Equal(l, []string{"error 3"}) {
		t.Error(l)
	}
	p.Do(api.Command{Kind: api.CPage, N: 1})
	if l := p.Do(api.Command{Kind: api.CSave, Text: "m0"}); !slices.Equal(l, []string{"save m0"}) {
		t.Error(l)
	}
	p.Do(api.Command{Kind: api.CBack, Text: "m1"})
	if l := p.Do(api.Command{Kind: api.CPage, N: 1}); !slices.Equal(l, []string{"row 0 cost 0", "end"}) {
		t.Error(l)
	}
	p.Do(api.Command{Kind: api.CBack, Text: "m0"})
	if l := p.Do(api.Command{Kind: api.CPage, N: 1}); !slices.Equal(l, []string{"end"}) {
		t.Error(l)
	}
}

func TestNewRunAndNil(t *testing.T) {
	for _, most := range []int{-1, 1000000000001} {
		p, code := New(most)
		l, at, runCode := Run("x", most)
		if p != nil || code != api.ErrArg || l != nil || at != 0 || runCode != api.ErrArg {
			t.Error(code, runCode)
		}
	}
	if l, at, code := Run("node A\nnode\n", 9); l != nil || at != 2 || code != api.ErrForm {
		t.Error(l, at, code)
	}
	if l, at, code := Run(strings.Repeat("\n", 10001), 9); l != nil || at != 0 || code != api.ErrLong {
		t.Error(l, at, code)
	}
	var p *Player
	if p.Do(api.Command{Kind: api.CGraph}) != nil || p.Asked() || p.Left() != 0 || !graph.Same(p.Graph(), api.Graph{}) {
		t.Error("nil")
	}
	p, _ = New(9)
	props := []api.Prop{{Name: "p", Value: api.Value{Kind: api.VInt, Int: 1}}}
	p.Do(api.Command{Kind: api.CNode, Node: api.Node{Label: "A", Props: props}})
	props[0].Name = "q"
	p.Graph().Nodes[0].Props[0].Name = "r"
	if p.Graph().Nodes[0].Props[0].Name != "p" || p.Asked() {
		t.Error("shared")
	}
}

func TestTooManyNodes(t *testing.T) {
	p, _ := New(1000000)
	node := api.Command{Kind: api.CNode, Node: api.Node{Label: "A"}}
	for range api.MaxNodes {
		p.Do(node)
	}
	if l := p.Do(node); !slices.Equal(l, []string{"error 5"}) {
		t.Error(l)
	}
	edge := api.Command{Kind: api.CEdge, Edge: api.Edge{From: 9999, Label: "a"}}
	for range api.MaxEdges {
		p.Do(edge)
	}
	bad := edge
	bad.Edge.To = 9999
	if l := p.Do(bad); !slices.Equal(l, []string{"error 5"}) || !graph.Good(p.Graph()) {
		t.Error(l)
	}
}
