package auto_test

import (
	"math"
	"math/rand"
	"slices"
	"strings"
	"testing"

	"bridleway/api"
	. "bridleway/auto"
	"bridleway/dfa"
	"bridleway/mini"
	"bridleway/regex"
)

func read(t *testing.T, s string) api.Regex {
	t.Helper()
	r, _, code := regex.Parse(s)
	if code != api.OK {
		t.Fatal(s, code)
	}
	return r
}

func least(t *testing.T, s string) api.Dfa {
	t.Helper()
	d, code := Of(read(t, s), api.MaxStates)
	if code != api.OK {
		t.Fatal(s, code)
	}
	return d
}

// random is the text of an expression.
func random(r *rand.Rand, depth int) string {
	if depth == 0 || r.Intn(4) == 0 {
		return []string{"a", "b", "^a", "()"}[r.Intn(4)]
	}
	x := random(r, depth-1)
	switch r.Intn(6) {
	case 0:
		return "(" + x + ")" + []string{"*", "+", "?"}[r.Intn(3)]
	case 1:
		return "(" + x + "|" + random(r, depth-1) + ")"
	}
	return x + "." + random(r, depth-1)
}

// rowsOf is all rows of n steps that are accepted, in order.
func rowsOf(d api.Dfa, n int) [][]api.Sym {
	rows := [][]api.Sym{{}}
	for range n {
		var longer [][]api.Sym
		for _, row := range rows {
			for _, s := range d.Syms {
				longer = append(longer, append(slices.Clone(row), s))
			}
		}
		rows = longer
	}
	return slices.DeleteFunc(rows, func(w []api.Sym) bool { return !dfa.Accepts(d, w...) })
}

func turned(w []api.Sym) []api.Sym {
	t := slices.Clone(w)
	slices.Reverse(t)
	for i := range t {
		t[i].Back = !t[i].Back
	}
	return t
}

func TestRandomExpressions(t *testing.T) {
	r := rand.New(rand.NewSource(17))
	for range 400 {
		s := random(r, 3)
		d := least(t, s)
		if !mini.Least(d) {
			t.Fatal(s)
		}
		shortest, longest := -1, -1
		for n := range 6 {
			rows := rowsOf(d, n)
			if Rows(d, n) != uint64(len(rows)) {
				t.Fatal(s, n, Rows(d, n), len(rows))
			}
			first, ok := First(d, n)
			if ok != (len(rows) > 0) || ok && !slices.Equal(first, rows[0]) || !ok && first != nil {
				t.Fatal(s, n, first)
			}
			if len(rows) > 0 && shortest < 0 {
				shortest = n
			}
			if len(rows) > 0 {
				longest = n
			}
		}
		got, ok := Shortest(d)
		if shortest >= 0 && (got != shortest || !ok) || None(d) {
			t.Fatal(s, got)
		}
		checkLongest(t, s, d, longest)
		checkTurn(t, s, d)
	}
}

func checkLongest(t *testing.T, s string, d api.Dfa, longest int) {
	t.Helper()
	finite := !strings.ContainsAny(s, "*+") || !someLonger(d)
	got, ok := Longest(d)
	if Finite(d) != finite || ok != finite || !ok && got != 0 || ok && got < 6 && got != longest {
		t.Fatal(s, got, ok, finite)
	}
}

// someLonger tells whether a row of at least as many steps as states is accepted.
func someLonger(d api.Dfa) bool {
	for n := len(d.Accept); n < 2*len(d.Accept); n++ {
		if Rows(d, n) > 0 {
			return true
		}
	}
	return false
}

func checkTurn(t *testing.T, s string, d api.Dfa) {
	t.Helper()
	x, code := Turn(d, api.MaxStates)
	if code != api.OK || !mini.Least(x) || len(x.Syms) != len(d.Syms) {
		t.Fatal(s, x, code)
	}
	for n := range 5 {
		if Rows(x, n) != Rows(d, n) {
			t.Fatal(s, n)
		}
		for _, w := range rowsOf(d, n) {
			if !dfa.Accepts(x, turned(w)...) {
				t.Fatal(s, w)
			}
		}
	}
	if again, _ := Turn(x, api.MaxStates); !dfa.Same(again, d) {
		t.Fatal(s, again)
	}
}

func TestExamples(t *testing.T) {
	d := least(t, "(a|b)*")
	if Rows(d, 3) != 8 || Rows(d, 62) != api.Most || Rows(d, 61) != 1<<61 || Rows(d, 1000) != api.Most {
		t.Error(Rows(d, 3), Rows(d, 62))
	}
	for _, n := range []int{-1, 1001, math.MaxInt, math.MinInt} {
		if l, ok := First(d, n); Rows(d, n) != 0 || ok || l != nil {
			t.Error(n)
		}
	}
	if l, ok := First(d, 1000); len(l) != 1000 || !ok || l[999].Label != "a" {
		t.Error(len(l))
	}
	if l, ok := First(least(t, "a.b|b.a|b.^a"), 2); !ok || l[0].Label != "a" {
		t.Error(l)
	}
	if n, ok := Longest(least(t, "()")); n != 0 || !ok {
		t.Error(n, ok)
	}
}

func TestNone(t *testing.T) {
	none := api.Dfa{Syms: []api.Sym{{Label: "a"}}, Next: [][]int{{0}, {1}}, Accept: []bool{false, true}}
	if !None(none) || !Finite(none) || Rows(none, 3) != 0 {
		t.Error("none")
	}
	for _, d := range []api.Dfa{none, {}, {Accept: []bool{true}}} {
		n, ok := Shortest(d)
		m, ok2 := Longest(d)
		l, ok3 := First(d, 0)
		if n != 0 || ok || m != 0 || ok2 || l != nil || ok3 || Rows(d, 0) != 0 {
			t.Error(d)
		}
	}
	if None(api.Dfa{}) || Finite(api.Dfa{}) {
		t.Error("not good")
	}
	x, code := Turn(none, 1)
	want := api.Dfa{Syms: []api.Sym{{Label: "a", Back: true}}, Next: [][]int{{-1}}, Accept: []bool{false}}
	if code != api.OK || !dfa.Same(x, want) {
		t.Error(x, code)
	}
}

func TestErrors(t *testing.T) {
	for _, most := range []int{0, -1, 1001} {
		if d, code := Of(api.Regex{}, most); code != api.ErrArg || !dfa.Same(d, api.Dfa{}) {
			t.Error(code)
		}
		if d, code := Turn(api.Dfa{}, most); code != api.ErrArg || !dfa.Same(d, api.Dfa{}) {
			t.Error(code)
		}
	}
	if d, code := Of(api.Regex{}, 5); code != api.ErrForm || !dfa.Same(d, api.Dfa{}) {
		t.Error(code)
	}
	if _, code := Turn(api.Dfa{}, 5); code != api.ErrForm {
		t.Error(code)
	}
	if _, code := Of(read(t, "a.a.a"), 3); code != api.ErrCells {
		t.Error(code)
	}
	// a|a has three places, and so three states ahead of the least automaton's two.
	if _, code := Of(read(t, "a|a"), 2); code != api.OK {
		t.Error(code)
	}
	if _, code := Of(read(t, "a|b"), 2); code != api.ErrCells {
		t.Error(code)
	}
	many := least(t, "(a|b).(a|b).(a|b).(a|b).(a|b).(a|b).a.(a|b)*")
	if d, code := Turn(many, 100); code != api.ErrCells || !dfa.Same(d, api.Dfa{}) {
		t.Error(code)
	}
	if d, code := Turn(many, 1000); code != api.OK || !dfa.Good(d) {
		t.Error(code)
	}
	three := least(t, "a.a")
	if _, code := Turn(three, 2); code != api.ErrCells {
		t.Error(code)
	}
	if _, code := Turn(three, 3); code != api.OK {
		t.Error(code)
	}
}

func TestTurnOfManyStates(t *testing.T) {
	d := least(t, "a"+strings.Repeat(".a", 199))
	x, code := Turn(d, 201)
	if code != api.OK || len(x.Accept) != 201 || Rows(x, 200) != 1 || Rows(x, 199) != 0 {
		t.Error(code)
	}
	if n, ok := Longest(d); n != 200 || !ok {
		t.Error(n, ok)
	}
}
