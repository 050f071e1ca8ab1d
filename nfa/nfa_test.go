package nfa_test

import (
	"math"
	"math/rand"
	"slices"
	"strings"
	"testing"

	"bridleway/api"
	. "bridleway/nfa"
	"bridleway/regex"
)

func read(t *testing.T, s string) (*Nfa, api.Regex) {
	t.Helper()
	r, _, code := regex.Parse(s)
	n, made := New(r)
	if code != api.OK || made != api.OK {
		t.Fatal(s, code, made)
	}
	return n, r
}

// random is the text of an expression.
func random(r *rand.Rand, depth int) string {
	if depth == 0 || r.Intn(4) == 0 {
		return []string{"a", "b", "^a", "()"}[r.Intn(4)]
	}
	x := random(r, depth-1)
	switch r.Intn(4) {
	case 0:
		return "(" + x + ")" + []string{"*", "+", "?"}[r.Intn(3)]
	case 1:
		return "(" + x + "|" + random(r, depth-1) + ")"
	}
	return x + "." + random(r, depth-1)
}

func randomRow(r *rand.Rand) []api.Sym {
	var w []api.Sym
	for range r.Intn(6) {
		w = append(w, []api.Sym{{Label: "a"}, {Label: "b"}, {Label: "a", Back: true}}[r.Intn(3)])
	}
	return w
}

func TestExample(t *testing.T) {
	n, _ := read(t, "a.b*")
	if !slices.Equal(n.Follow(1), []int{2}) || !slices.Equal(n.Follow(2), []int{2}) || !slices.Equal(n.Follow(0), []int{1}) || n.States() != 3 {
		t.Error(n.Follow(1), n.Follow(2))
	}
	if n.Accepts(0) || !n.Accepts(1) || !n.Accepts(2) {
		t.Error("accepts")
	}
}

func TestStates(t *testing.T) {
	n, _ := read(t, "(a|()|^b)*.a?.(b.())+")
	want := [][]int{{1, 2, 3, 4}, {1, 2, 3, 4}, {1, 2, 3, 4}, {4}, {4}}
	for state, follow := range want {
		if !slices.Equal(n.Follow(state), follow) || n.Accepts(state) != (state == 4) {
			t.Error(state, n.Follow(state))
		}
	}
	for state, want := range []api.Sym{{}, {Label: "a"}, {Label: "b", Back: true}, {Label: "a"}, {Label: "b"}} {
		if s, ok := n.Sym(state); s != want || ok != (state > 0) {
			t.Error(state, s, ok)
		}
	}
	if !slices.Equal(n.Next(0, api.Sym{Label: "a"}), []int{1, 3}) || !slices.Equal(n.Move([]int{4, 0, -1, 99, 0}, api.Sym{Label: "b"}), []int{4}) || len(n.Next(3, api.Sym{Label: "a"})) != 0 {
		t.Error("next, move")
	}
	if empty, _ := read(t, "()"); empty.States() != 1 || !empty.Accepts(0) || len(empty.Follow(0)) != 0 || len(empty.Syms()) != 0 {
		t.Error("empty")
	}
}

func TestRunsAcceptWhatMatches(t *testing.T) {
	r := rand.New(rand.NewSource(14))
	for range 2000 {
		s := random(r, 4)
		n, x := read(t, s)
		if n.States() != regex.Size(x)+1 || !slices.Equal(n.Syms(), regex.Syms(x)) {
			t.Fatal(s)
		}
		for range 8 {
			w := randomRow(r)
			states := n.Run(w...)
			if slices.ContainsFunc(states, n.Accepts) != regex.Match(x, w...) || !slices.IsSorted(states) {
				t.Fatal(s, w, states)
			}
			if len(w) > 0 && !slices.Equal(states, n.Move(n.Run(w[:len(w)-1]...), w[len(w)-1])) {
				t.Fatal(s, w)
			}
		}
	}
	if n, _ := read(t, "a"); !slices.Equal(n.Run(), []int{0}) {
		t.Error("run of none")
	}
}

// numbered is the expression in which each step has a label of its own.
func numbered(r api.Regex, next *int) api.Regex {
	x := api.Regex{Kind: r.Kind}
	if r.Kind == api.RSym {
		*next++
		x.Sym = api.Sym{Label: "s" + strings.Repeat("x", *next)}
	}
	for _, p := range r.Parts {
		x.Parts = append(x.Parts, numbered(p, next))
	}
	return x
}

func TestFollowIsOfRowsOfPlaces(t *testing.T) {
	r := rand.New(rand.NewSource(15))
	for range 300 {
		_, x := read(t, random(r, 3))
		next := 0
		x = numbered(x, &next)
		n, _ := New(x)
		for state := range n.States() {
			var want []int
			for i, s := range n.Syms() {
				// Labels rise with their numbers.
				if len(n.Next(state, s)) > 0 {
					want = append(want, i+1)
				}
			}
			if !slices.Equal(n.Follow(state), want) {
				t.Fatal(state, want)
			}
		}
	}
}

func TestErrorsAndNone(t *testing.T) {
	for _, x := range []api.Regex{{}, {Kind: api.RStar}, {Kind: api.RSym}} {
		if n, code := New(x); n != nil || code != api.ErrForm {
			t.Error(code)
		}
	}
	one, _ := read(t, "a")
	for _, n := range []*Nfa{nil, one} {
		for _, state := range []int{-1, 2, math.MaxInt, math.MinInt} {
			s, ok := n.Sym(state)
			if len(n.Follow(state))+len(n.Next(state, api.Sym{}))+len(n.Move([]int{state}, api.Sym{Label: "a"})) != 0 || n.Accepts(state) || ok || s != (api.Sym{}) {
				t.Error(state)
			}
		}
	}
	var n *Nfa
	if n.States() != 0 || len(n.Run()) != 0 || len(n.Syms()) != 0 || len(n.Follow(0)) != 0 || n.Accepts(0) {
		t.Error("nil")
	}
	one.Follow(0)[0] = 9
	one.Syms()[0].Label = "z"
	if one.Follow(0)[0] != 1 || one.Syms()[0].Label != "a" {
		t.Error("shared")
	}
}
