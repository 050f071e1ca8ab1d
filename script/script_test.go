package script_test

import (
	"math"
	"math/rand"
	"slices"
	"strings"
	"testing"

	"bridleway/api"
	. "bridleway/script"
)

func num(n int) api.Value { return api.Value{Kind: api.VInt, Int: n} }

var lines = map[string]api.Command{
	"node A":                     {Kind: api.CNode, Node: api.Node{Label: "A"}},
	"node A p=-1 q='it\\'s x=1'": {Kind: api.CNode, Node: api.Node{Label: "A", Props: []api.Prop{{Name: "p", Value: num(-1)}, {Name: "q", Value: api.Value{Kind: api.VText, Text: "it's x=1"}}}}},
	"edge 0 9999 a 1000000":      {Kind: api.CEdge, Edge: api.Edge{To: 9999, Label: "a", Weight: api.MaxWeight}},
	"edge 9999 0 b 0":            {Kind: api.CEdge, Edge: api.Edge{From: 9999, Label: "b"}},
	"drop 0":                     {Kind: api.CDrop},
	"limits 0 1000000000000":     {Kind: api.CLimits, Limits: api.Limits{Cells: api.MaxInt}},
	"query ":                     {Kind: api.CQuery},
	"query  x ~":                 {Kind: api.CQuery, Text: " x ~"},
	"page 5":                     {Kind: api.CPage, N: 5},
	"start":                      {Kind: api.CStart},
	"save a_1":                   {Kind: api.CSave, Text: "a_1"},
	"back start":                 {Kind: api.CBack, Text: "start"},
	"at 1000000000000":           {Kind: api.CAt, N: api.MaxInt},
	"count":                      {Kind: api.CCount},
	"columns":                    {Kind: api.CColumns},
	"explain":                    {Kind: api.CExplain},
	"graph":                      {Kind: api.CGraph},
	"meter":                      {Kind: api.CMeter},
	"clear":                      {Kind: api.CClear},
}

func TestLines(t *testing.T) {
	for line, c := range lines {
		if got, code := Line(c); got != line || code != api.OK || !Good(c) {
			t.Errorf("%q %q", got, line)
		}
		if got, code := Command(line); !Same(got, c) || code != api.OK {
			t.Error(line, got, code)
		}
		if Word(c.Kind) != strings.SplitN(line, " ", 2)[0] {
			t.Error(Word(c.Kind))
		}
	}
	for _, kind := range []int{0, -1, 17, math.MaxInt, math.MinInt} {
		if Word(kind) != "" || Good(api.Command{Kind: kind}) {
			t.Error(kind)
		}
	}
	long := strings.Repeat("~", api.MaxQuery)
	if c, code := Command("query " + long); c.Text != long || code != api.OK {
		t.Error(code)
	}
}

func TestNoLines(t *testing.T) {
	for _, line := range []string{"", " ", "node", "node ", "node 1", "node A ", "node A p", "node A p=01", "node A p=1 p=2", "node A p=1\n", "node A\nnode A", "Node A", "edge", "edge 0 0 a", "edge 0 0 a 1 ", "edge 00 0 a 1", "edge 0 0 1 1", "edge 0 10000 a 1", "edge -1 0 a 1", "edge 0 0 a 1000001", "edge 0 0 a +1", "edge  0 0 a", "drop", "drop -1", "drop 01", "drop 1000000000001", "drop 1 ", "limits 1", "limits 1 2 3", "limits 1 -2", "limits  1 2", "query", "query \n", "query \x7f", "query é", "query " + strings.Repeat("x", 4097), "page 05", "page", "page ", "page x", "page 9223372036854775808", "start ", "start 1", "save", "save ", "save 1", "save a b", "save " + strings.Repeat("x", 31), "count x", "clear ", " clear", "clear\n", "all"} {
		if c, code := Command(line); code != api.ErrForm || !Same(c, api.Command{}) {
			t.Errorf("%.30q %v", line, c)
		}
	}
}

func TestWhatAKindDoesNotSpeakOfIsZero(t *testing.T) {
	extras := []func(c *api.Command){
		func(c *api.Command) { c.Node.Label = "A" },
		func(c *api.Command) { c.Node.Props = []api.Prop{{Name: "p", Value: num(1)}} },
		func(c *api.Command) { c.Edge.Label = "a" },
		func(c *api.Command) { c.Edge.Weight = 1 },
		func(c *api.Command) { c.Limits.States = 1 },
		func(c *api.Command) { c.Limits.Cells = 1 },
		func(c *api.Command) { c.Text = "a" },
		func(c *api.Command) { c.N = 1 },
	}
	speaks := map[int][]int{api.CNode: {0, 1}, api.CEdge: {2, 3}, api.CLimits: {4, 5}, api.CQuery: {6}, api.CSave: {6}, api.CBack: {6}, api.CDrop: {7}, api.CPage: {7}, api.CAt: {7}}
	for line, c := range lines {
		for i, extra := range extras {
			changed := c
			extra(&changed)
			if Good(changed) != slices.Contains(speaks[c.Kind], i) {
				t.Error(line, i)
			}
			if text, code := Line(changed); !Good(changed) && (text != "" || code != api.ErrForm) {
				t.Error(line, i, code)
			}
			if i != 6 && Same(changed, c) && line != "query  x ~" && i != 0 && i != 2 {
				t.Error("same", line, i)
			}
		}
	}
	bad := []api.Command{{Kind: api.CNode}, {Kind: api.CEdge}, {Kind: api.CDrop, N: -1}, {Kind: api.CAt, N: api.MaxInt + 1}, {Kind: api.CLimits, Limits: api.Limits{States: -1}}, {Kind: api.CSave}, {Kind: api.CQuery, Text: "\n"}, {Kind: api.CQuery, Text: "\xff"}}
	for _, c := range bad {
		if text, code := Print(lines["start"], c); Good(c) || text != "" || code != api.ErrForm {
			t.Error(c)
		}
	}
}

func TestPrintAndRead(t *testing.T) {
	r := rand.New(rand.NewSource(41))
	var pool []api.Command
	for _, c := range lines {
		pool = append(pool, c)
	}
	for range 200 {
		var l []api.Command
		for range r.Intn(8) {
			l = append(l, pool[r.Intn(len(pool))])
		}
		s, code := Print(l...)
		got, at, readCode := Read(s)
		if code != api.OK || readCode != api.OK || at != 0 || !slices.EqualFunc(got, l, Same) {
			t.Fatal(s, at, readCode)
		}
		if again, _ := Print(got...); again != s {
			t.Fatal(again)
		}
	}
}

func TestReadRefuses(t *testing.T) {
	cases := []struct {
		s    string
		at   int
		code api.Errno
	}{
		{"", 0, api.OK}, {"start\n", 0, api.OK}, {"start", 1, api.ErrForm}, {"start\nstart", 2, api.ErrForm}, {"start\n\n", 2, api.ErrForm}, {"\n", 1, api.ErrForm}, {"start\nx\ny\n", 2, api.ErrForm}, {"start\r\n", 1, api.ErrForm},
		{strings.Repeat("start\n", 10000), 0, api.OK}, {strings.Repeat("start\n", 10000) + "x", 10001, api.ErrForm}, {strings.Repeat("\n", 10001), 0, api.ErrLong}, {strings.Repeat("\n", 10000), 1, api.ErrForm},
	}
	for i, c := range cases {
		if l, at, code := Read(c.s); at != c.at || code != c.code || code != api.OK && l != nil {
			t.Error(i, at, code)
		}
	}
}
