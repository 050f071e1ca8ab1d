package dfa_test

import (
	"math"
	"math/rand"
	"slices"
	"strings"
	"testing"

	"bridleway/api"
	. "bridleway/dfa"
	"bridleway/nfa"
	"bridleway/regex"
)

func read(t *testing.T, s string) api.Regex {
	t.Helper()
	r, _, code := regex.Parse(s)
	if code != api.OK {
		t.Fatal(s, code)
	}
	return r
}

func make1000(t *testing.T, s string) api.Dfa {
	t.Helper()
	d, code := Of(read(t, s), api.MaxStates)
	if code != api.OK {
		t.Fatal(s, code)
	}
	return d
}

// random is the text of an expression.
func random(r *rand.Rand, depth int) string {
	if depth == 0 || r.Intn(4) == 0 {
		return []string{"a", "b", "^a", "()"}[r.Intn(4)]
	}
	x := random(r, depth-1)
	switch r.Intn(4) {
	case 0:
		return "(" + x + ")" + []string{"*", "+", "?"}[r.Intn(3)]
	case 1:
		return "(" + x + "|" + random(r, depth-1) + ")"
	}
	return x + "." + random(r, depth-1)
}

func randomRow(r *rand.Rand) []api.Sym {
	var w []api.Sym
	for range r.Intn(6) {
		w = append(w, []api.Sym{{Label: "a"}, {Label: "b"}, {Label: "a", Back: true}, {Label: "c"}}[r.Intn(4)])
	}
	return w
}

func TestExample(t *testing.T) {
	d := make1000(t, "a*")
	want := api.Dfa{Syms: []api.Sym{{Label: "a"}}, Next: [][]int{{1}, {1}}, Accept: []bool{true, true}}
	if !Same(d, want) {
		t.Error(d)
	}
}

// plain makes the automaton of sets of states by nfa's own calls.
func plain(x api.Regex) api.Dfa {
	n, _ := nfa.New(x)
	d := api.Dfa{Syms: n.Syms()}
	sets := [][]int{{0}}
	for i := 0; i < len(sets); i++ {
		var row []int
		for _, s := range d.Syms {
			next := n.Move(sets[i], s)
			at := slices.IndexFunc(sets, func(l []int) bool { return slices.Equal(l, next) })
			if len(next) > 0 && at < 0 {
				at = len(sets)
				sets = append(sets, next)
			}
			row = append(row, at)
		}
		d.Next = append(d.Next, row)
		d.Accept = append(d.Accept, slices.ContainsFunc(sets[i], n.Accepts))
	}
	return d
}

func TestRandomExpressions(t *testing.T) {
	r := rand.New(rand.NewSource(15))
	for range 1000 {
		x := read(t, random(r, 4))
		want := plain(x)
		states := len(want.Accept)
		d, code := Of(x, states)
		if code != api.OK || !Good(d) || !Same(d, want) {
			t.Fatal(d, want)
		}
		if states > 1 {
			if d, code := Of(x, states-1); code != api.ErrCells || !Same(d, api.Dfa{}) {
				t.Fatal(code)
			}
		}
		for range 8 {
			w := randomRow(r)
			if Accepts(d, w...) != regex.Match(x, w...) {
				t.Fatal(w)
			}
		}
	}
}

func TestOfErrors(t *testing.T) {
	good := read(t, "a")
	for _, most := range []int{0, -1, 1001, math.MaxInt} {
		if d, code := Of(api.Regex{}, most); code != api.ErrArg || !Same(d, api.Dfa{}) {
			t.Error(code)
		}
	}
	if d, code := Of(api.Regex{}, 1); code != api.ErrForm || !Same(d, api.Dfa{}) {
		t.Error(code)
	}
	if _, code := Of(good, 1); code != api.ErrCells {
		t.Error(code)
	}
	// Of (a|b)*.a and n of any more there are 2^n states.
	many := read(t, "(a|b)*.a"+strings.Repeat(".(a|b)", 15))
	if d, code := Of(many, 1000); code != api.ErrCells || !Same(d, api.Dfa{}) {
		t.Error(code)
	}
	wide := read(t, "a"+strings.Repeat(".a", 199))
	if d, code := Of(wide, 201); code != api.OK || len(d.Accept) != 201 || !d.Accept[200] || d.Accept[199] {
		t.Error(code)
	}
}

func TestGood(t *testing.T) {
	a, b, back := api.Sym{Label: "a"}, api.Sym{Label: "b"}, api.Sym{Label: "a", Back: true}
	one := func(syms ...api.Sym) api.Dfa {
		return api.Dfa{Syms: syms, Next: [][]int{slices.Repeat([]int{-1}, len(syms))}, Accept: []bool{false}}
	}
	many := func(n int) api.Dfa { return api.Dfa{Next: make([][]int, n), Accept: make([]bool, n)} }
	var labels []api.Sym
	for i := range 201 {
		labels = append(labels, api.Sym{Label: strings.Repeat("x", i)})
	}
	for _, d := range []api.Dfa{one(), one(a, back, b), many(1000), one(labels[:200]...)} {
		if !Good(d) {
			t.Error(d)
		}
	}
	bad := []api.Dfa{{}, many(1001), one(labels...), one(b, a), one(a, a), one(back, a)}
	for _, next := range []int{-2, 1, math.MaxInt} {
		d := one(a)
		d.Next[0][0] = next
		bad = append(bad, d)
	}
	short, long, more := one(a), one(a), one(a)
	short.Next[0] = nil
	long.Next[0] = []int{0, 0}
	more.Next = append(more.Next, []int{0})
	for _, d := range append(bad, short, long, more) {
		state, ok := Run(d)
		if Good(d) || ok || state != 0 || Accepts(d) || len(Live(d)) != 0 {
			t.Error(d)
		}
		if to, ok := Next(d, 0, a); to != 0 || ok {
			t.Error(d)
		}
	}
}

func TestNextAndRun(t *testing.T) {
	d := make1000(t, "a.b")
	a, b := api.Sym{Label: "a"}, api.Sym{Label: "b"}
	if to, ok := Next(d, 0, a); to != 1 || !ok {
		t.Error(to, ok)
	}
	for _, state := range []int{-1, 3, math.MaxInt} {
		if to, ok := Next(d, state, a); to != 0 || ok {
			t.Error(to, ok)
		}
	}
	for _, s := range []api.Sym{b, {Label: "c"}, {Label: "a", Back: true}} {
		if to, ok := Next(d, 0, s); to != 0 || ok {
			t.Error(s, to, ok)
		}
	}
	loop := api.Dfa{Syms: []api.Sym{a}, Next: [][]int{{1}, {0}}, Accept: []bool{true, false}}
	if to, ok := Next(loop, 1, a); to != 0 || !ok || !Accepts(loop, a, a) || Accepts(loop, a) {
		t.Error(to, ok)
	}
	if state, ok := Run(d); state != 0 || !ok {
		t.Error(state, ok)
	}
	if state, ok := Run(d, a, b); state != 2 || !ok || !Accepts(d, a, b) || Accepts(d, a) || Accepts(d, a, b, b) {
		t.Error(state, ok)
	}
	if state, ok := Run(d, a, a); state != 0 || ok {
		t.Error(state, ok)
	}
}

func TestLiveSameOwn(t *testing.T) {
	d := api.Dfa{Syms: []api.Sym{{Label: "a"}, {Label: "b"}}, Next: [][]int{{1, 2}, {1, 3}, {2, 2}, {-1, -1}, {0, -1}}, Accept: []bool{false, false, false, true, false}}
	if !slices.Equal(Live(d), []bool{true, true, false, true, true}) {
		t.Error(Live(d))
	}
	changes := []func(d *api.Dfa){
		func(d *api.Dfa) { d.Syms[0].Back = true },
		func(d *api.Dfa) { d.Next[4][0] = 1 },
		func(d *api.Dfa) { d.Next[4] = d.Next[4][:1] },
		func(d *api.Dfa) { d.Accept[0] = true },
		func(d *api.Dfa) { d.Accept = d.Accept[:4] },
	}
	for i, change := range changes {
		own := Own(d)
		if !Same(own, d) {
			t.Error(i)
		}
		change(&own)
		if Same(own, d) || d.Next[4][0] != 0 || d.Accept[0] || d.Syms[0].Back {
			t.Error(i)
		}
	}
	Live(d)[0] = false
	if d.Accept[3] != true || !Same(Own(api.Dfa{}), api.Dfa{}) {
		t.Error("own")
	}
}
