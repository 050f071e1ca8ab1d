package mini_test

import (
	"math/rand"
	"slices"
	"strings"
	"testing"

	"bridleway/api"
	"bridleway/dfa"
	. "bridleway/mini"
	"bridleway/regex"
)

var syms = []api.Sym{{Label: "a"}, {Label: "a", Back: true}, {Label: "b"}}

func of(t *testing.T, s string) api.Dfa {
	t.Helper()
	r, _, code := regex.Parse(s)
	d, made := dfa.Of(r, api.MaxStates)
	if code != api.OK || made != api.OK {
		t.Fatal(s, code, made)
	}
	return d
}

// random is any good automaton.
func random(r *rand.Rand, states int) api.Dfa {
	d := api.Dfa{Syms: syms[:r.Intn(4)]}
	states = 1 + r.Intn(states)
	for range states {
		row := make([]int, len(d.Syms))
		for i := range row {
			row[i] = r.Intn(states+2) - 2
			row[i] = max(row[i], -1)
		}
		d.Next = append(d.Next, row)
		d.Accept = append(d.Accept, r.Intn(3) == 0)
	}
	return d
}

// slow is Classes, by refining till nothing changes.
func slow(d api.Dfa) []int {
	n := len(d.Accept)
	class := make([]int, n+1)
	for state, ok := range d.Accept {
		if ok {
			class[state] = 1
		}
	}
	for range n + 1 {
		next := make([]int, n+1)
		var keys []string
		for state := range n + 1 {
			key := string(rune(class[state]))
			for i := range d.Syms {
				to := n
				if state < n && d.Next[state][i] >= 0 {
					to = d.Next[state][i]
				}
				key += string(rune(class[to]))
			}
			at := slices.Index(keys, key)
			if at < 0 {
				at = len(keys)
				keys = append(keys, key)
			}
			next[state] = at
		}
		class = next
	}
	return class[:n]
}

func rows(n int) [][]api.Sym {
	all := [][]api.Sym{{}}
	for i := 0; len(all[i]) < n; i++ {
		for _, s := range syms {
			all = append(all, append(slices.Clone(all[i]), s))
		}
	}
	return all
}

func TestClasses(t *testing.T) {
	r := rand.New(rand.NewSource(16))
	for round := range 30000 {
		d := random(r, 2+round%24)
		class, code := Classes(d)
		if code != api.OK || !slices.Equal(class, slow(d)) {
			t.Fatal(d, class, slow(d))
		}
	}
}

func TestOf(t *testing.T) {
	r := rand.New(rand.NewSource(17))
	words := rows(5)
	for range 300 {
		d := random(r, 7)
		was := dfa.Own(d)
		m, code := Of(d)
		if code != api.OK || !dfa.Good(m) || len(m.Accept) > len(d.Accept) || !slices.Equal(m.Syms, d.Syms) || !dfa.Same(d, was) {
			t.Fatal(d, m)
		}
		for _, w := range words {
			if dfa.Accepts(m, w...) != dfa.Accepts(d, w...) {
				t.Fatal(d, m, w)
			}
		}
		if again, _ := Of(m); !dfa.Same(again, m) || !Least(m) || Least(d) != dfa.Same(d, m) {
			t.Fatal(m)
		}
		class, _ := Classes(m)
		for i, c := range class {
			if i != c {
				t.Fatal(m, class)
			}
		}
		if equal, code := Equal(d, m); !equal || code != api.OK {
			t.Fatal(d, m)
		}
	}
}

func TestSameLanguageSameAutomaton(t *testing.T) {
	for _, pair := range [][2]string{{"a|a", "a"}, {"a*.a", "a+"}, {"(a|b)*", "(a*.b*)*"}, {"a.(b|^a)", "a.b|a.^a"}, {"(a?)+", "a*"}} {
		x, _ := Of(of(t, pair[0]))
		y, _ := Of(of(t, pair[1]))
		if !dfa.Same(x, y) {
			t.Error(pair)
		}
	}
	if m, _ := Of(of(t, "a|a")); len(m.Accept) != 2 {
		t.Error(m)
	}
}

func TestEqual(t *testing.T) {
	r := rand.New(rand.NewSource(18))
	words := rows(6)
	equals := 0
	for range 2000 {
		a, b := random(r, 3), random(r, 3)
		want := true
		for _, w := range words {
			want = want && dfa.Accepts(a, w...) == dfa.Accepts(b, w...)
		}
		got, code := Equal(a, b)
		if got != want || code != api.OK {
			t.Fatal(a, b, got)
		}
		if got {
			equals++
		}
	}
	if equals == 0 {
		t.Error("none is equal")
	}
	if equal, _ := Equal(of(t, "a|b"), of(t, "b|c")); equal {
		t.Error("other steps")
	}
}

func TestNumberAndTrim(t *testing.T) {
	a, b := api.Sym{Label: "a"}, api.Sym{Label: "b"}
	d := api.Dfa{Syms: []api.Sym{a, b}, Next: [][]int{{3, 2}, {0, 0}, {2, -1}, {-1, 4}, {4, 3}}, Accept: []bool{false, true, false, true, false}}
	n, code := Number(d)
	want := api.Dfa{Syms: []api.Sym{a, b}, Next: [][]int{{1, 2}, {-1, 3}, {2, -1}, {3, 1}}, Accept: []bool{false, true, false, false}}
	if code != api.OK || !dfa.Same(n, want) {
		t.Error(n, code)
	}
	trim, code := Trim(d)
	want = api.Dfa{Syms: []api.Sym{a, b}, Next: [][]int{{1, -1}, {-1, 2}, {2, 1}}, Accept: []bool{false, true, false}}
	if code != api.OK || !dfa.Same(trim, want) {
		t.Error(trim, code)
	}
	dead := api.Dfa{Syms: []api.Sym{a}, Next: [][]int{{0}, {1}}, Accept: []bool{false, true}}
	want = api.Dfa{Syms: []api.Sym{a}, Next: [][]int{{-1}}, Accept: []bool{false}}
	if trim, _ := Trim(dead); !dfa.Same(trim, want) {
		t.Error(trim)
	}
	if m, _ := Of(dead); !dfa.Same(m, want) {
		t.Error(m)
	}
	if n, _ := Number(dead); len(n.Accept) != 1 || n.Next[0][0] != 0 {
		t.Error(n)
	}
}

func TestErrors(t *testing.T) {
	good := of(t, "a")
	for _, d := range []api.Dfa{{}, {Accept: []bool{true}}, {Accept: []bool{true}, Next: [][]int{{5}}, Syms: syms[:1]}} {
		m, code1 := Of(d)
		c, code2 := Classes(d)
		x, code3 := Trim(d)
		n, code4 := Number(d)
		e, code5 := Equal(d, good)
		f, code6 := Equal(good, d)
		for _, code := range []api.Errno{code1, code2, code3, code4, code5, code6} {
			if code != api.ErrForm {
				t.Error(code)
			}
		}
		if !dfa.Same(m, api.Dfa{}) || c != nil || !dfa.Same(x, m) || !dfa.Same(n, m) || e || f || Least(d) {
			t.Error("zero")
		}
	}
}

func TestGreatOnesAreFast(t *testing.T) {
	d := api.Dfa{}
	for i := range 200 {
		d.Syms = append(d.Syms, api.Sym{Label: strings.Repeat("x", i+1)})
	}
	for state := range 1000 {
		d.Next = append(d.Next, slices.Repeat([]int{min(state+1, 999)}, 200))
		d.Accept = append(d.Accept, state == 999)
	}
	m, code := Of(d)
	if code != api.OK || len(m.Accept) != 1000 {
		t.Error(len(m.Accept), code)
	}
	if equal, _ := Equal(d, m); !equal {
		t.Error("equal")
	}
}
