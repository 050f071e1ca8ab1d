package regex_test

import (
	"math/rand"
	"slices"
	"strings"
	"testing"

	"bridleway/api"
	"bridleway/lex"
	. "bridleway/regex"
)

func sym(label string) api.Regex { return api.Regex{Kind: api.RSym, Sym: api.Sym{Label: label}} }
func back(label string) api.Regex {
	return api.Regex{Kind: api.RSym, Sym: api.Sym{Label: label, Back: true}}
}
func of(kind int, parts ...api.Regex) api.Regex { return api.Regex{Kind: kind, Parts: parts} }

// random is a good expression.
func random(r *rand.Rand, depth, above int) api.Regex {
	kind := api.REmpty + r.Intn(7)
	if depth <= 1 || r.Intn(4) == 0 {
		kind = api.RSym
	}
	if kind == above && (kind == api.RSeq || kind == api.RAlt) {
		kind = api.ROpt
	}
	switch kind {
	case api.REmpty:
		return of(kind)
	case api.RSym:
		x := sym(string(rune('a' + r.Intn(2))))
		x.Sym.Back = r.Intn(3) == 0
		return x
	case api.RSeq, api.RAlt:
		var parts []api.Regex
		for range 2 + r.Intn(2) {
			parts = append(parts, random(r, depth-1, kind))
		}
		return of(kind, parts...)
	}
	return of(kind, random(r, depth-1, kind))
}

// ends is where w may stand behind a row of r that begins at a place.
func ends(r api.Regex, w []api.Sym, at int) map[int]int {
	found := map[int]int{}
	switch r.Kind {
	case api.REmpty:
		found[at] = 1
	case api.RSym:
		if at < len(w) && w[at] == r.Sym {
			found[at+1] = 1
		}
	case api.RSeq:
		found[at] = 1
		for _, p := range r.Parts {
			found = behind(p, w, found)
		}
	case api.RAlt:
		for _, p := range r.Parts {
			for i := range ends(p, w, at) {
				found[i] = 1
			}
		}
	default:
		found = ends(r.Parts[0], w, at)
		for n := 0; r.Kind != api.ROpt && n <= len(w); n++ {
			for i := range behind(r.Parts[0], w, found) {
				found[i] = 1
			}
		}
		if r.Kind != api.RPlus {
			found[at] = 1
		}
	}
	return found
}

func behind(r api.Regex, w []api.Sym, from map[int]int) map[int]int {
	found := map[int]int{}
	for i := range from {
		for j := range ends(r, w, i) {
			found[j] = 1
		}
	}
	return found
}

func randomRow(r *rand.Rand) []api.Sym {
	var w []api.Sym
	for range r.Intn(6) {
		w = append(w, api.Sym{Label: string(rune('a' + r.Intn(2))), Back: r.Intn(3) == 0})
	}
	return w
}

func turned(w []api.Sym) []api.Sym {
	t := slices.Clone(w)
	slices.Reverse(t)
	for i := range t {
		t[i].Back = !t[i].Back
	}
	return t
}

func TestRandomExpressions(t *testing.T) {
	r := rand.New(rand.NewSource(10))
	for range 3000 {
		x := random(r, 5, 0)
		if !Good(x) {
			t.Fatal(x)
		}
		s, code := Print(x)
		got, n, code2 := Parse(s)
		words, _, _ := lex.Words(s)
		if code != api.OK || code2 != api.OK || !Same(got, x) || n != len(words) {
			t.Fatal(s, got, n, code2)
		}
		if !Same(Turn(Turn(x)), x) {
			t.Fatal(s)
		}
		for range 10 {
			w := randomRow(r)
			want := ends(x, w, 0)[len(w)] == 1
			if Match(x, w...) != want || Match(Turn(x), turned(w)...) != want {
				t.Fatal(s, w, want)
			}
		}
		if Empty(x) != (ends(x, nil, 0)[0] == 1) {
			t.Fatal(s)
		}
	}
}

func TestGood(t *testing.T) {
	a, b := sym("a"), sym("b")
	deep := func(n int) api.Regex {
		x := a
		for range n - 1 {
			x = of(api.RStar, x)
		}
		return x
	}
	wide := func(n int) api.Regex { return of(api.RAlt, slices.Repeat([]api.Regex{a}, n)...) }
	for _, x := range []api.Regex{a, of(api.REmpty), of(api.RSeq, a, of(api.RAlt, a, b)), deep(32), wide(200), of(api.RSeq, wide(100), wide(100)), of(api.RAlt, slices.Repeat([]api.Regex{of(api.REmpty)}, 1000)...)} {
		if !Good(x) {
			t.Error(x)
		}
	}
	withParts := a
	withParts.Parts = []api.Regex{b}
	withSym := of(api.RStar, a)
	withSym.Sym.Label = "a"
	withBack := of(api.REmpty)
	withBack.Sym.Back = true
	loop := make([]api.Regex, 2)
	loop[0], loop[1] = of(api.RStar, loop[:1]...), of(api.RSeq, loop...)
	bad := []api.Regex{{}, of(8), of(-1), sym(""), sym("1"), withParts, withSym, withBack, of(api.REmpty, a), of(api.RSeq, a), of(api.RAlt, a), of(api.RSeq), of(api.RStar), of(api.RStar, a, b), of(api.RPlus, a, b), of(api.ROpt), of(api.RSeq, a, of(api.RSeq, a, b)), of(api.RAlt, of(api.RAlt, a, b), a), of(api.RStar, api.Regex{}), of(api.RStar, sym("")), deep(33), wide(201), of(api.RSeq, wide(100), wide(101)), loop[1]}
	for _, x := range bad {
		s, code := Print(x)
		one, ok := One(x)
		if Good(x) || s != "" || code != api.ErrForm || Match(x) || Match(x, a.Sym) || Empty(x) || !Same(Turn(x), api.Regex{}) || ok || one != (api.Sym{}) {
			t.Error(s, code)
		}
	}
}

func TestVeryDeep(t *testing.T) {
	x := sym("a")
	for range 1000000 {
		x = of(api.ROpt, x)
	}
	if Good(x) || Size(x) != 1 || len(Syms(x)) != 1 || !Same(x, x) {
		t.Error("deep")
	}
	brackets := slices.Repeat([]api.Word{{Kind: api.WSign, Text: "("}}, 1000000)
	if _, n, code := Read(brackets); n != 1000000 || code != api.ErrEnd {
		t.Error(n, code)
	}
}

func TestPrint(t *testing.T) {
	a, b, c := sym("a"), sym("b"), back("c")
	want := map[string]api.Regex{
		"a.(b|^c)*": of(api.RSeq, a, of(api.RStar, of(api.RAlt, b, c))),
		"a.b|^c":    of(api.RAlt, of(api.RSeq, a, b), c),
		"(a.b)+?":   of(api.ROpt, of(api.RPlus, of(api.RSeq, a, b))),
		"()*|a":     of(api.RAlt, of(api.RStar, of(api.REmpty)), a),
		"(a|b).()":  of(api.RSeq, of(api.RAlt, a, b), of(api.REmpty)),
	}
	for s, x := range want {
		if got, code := Print(x); got != s || code != api.OK {
			t.Error(got, code)
		}
	}
}

func TestRead(t *testing.T) {
	a, b, c := sym("a"), sym("b"), sym("c")
	want := map[string]api.Regex{
		"((a))":           a,
		"(a.b).c":         of(api.RSeq, a, b, c),
		"a.((b.c))":       of(api.RSeq, a, b, c),
		"(a|b)|c":         of(api.RAlt, a, b, c),
		"a|((b|c))":       of(api.RAlt, a, b, c),
		"a|(b.c)":         of(api.RAlt, a, of(api.RSeq, b, c)),
		"(a.b)*.c":        of(api.RSeq, of(api.RStar, of(api.RSeq, a, b)), c),
		"(a|b).c":         of(api.RSeq, of(api.RAlt, a, b), c),
		"( ) . ^ a":       of(api.RSeq, of(api.REmpty), back("a")),
		"(()).(a|(b)|())": of(api.RSeq, of(api.REmpty), of(api.RAlt, a, b, of(api.REmpty))),
		"a*+?":            of(api.ROpt, of(api.RPlus, of(api.RStar, a))),
	}
	for s, x := range want {
		words, _, _ := lex.Words(s)
		if got, n, code := Parse(s); !Same(got, x) || n != len(words) || code != api.OK {
			t.Error(s, got, n, code)
		}
	}
}

func TestReadGoesOnAsLongAsItCan(t *testing.T) {
	for s, n := range map[string]int{"a b": 1, "a* :": 2, "a ) . b": 1, "(a|b) (": 5, "a* 5": 2, "a ^b": 1, "a SHORTEST": 1} {
		words, _, _ := lex.Words(s)
		if r, got, code := Read(words); got != n || code != api.OK || !Good(r) {
			t.Error(s, got, code)
		}
		if r, at, code := Parse(s); at != n || code != api.ErrForm || !Same(r, api.Regex{}) {
			t.Error(s, at, code)
		}
	}
}

func TestReadRefuses(t *testing.T) {
	wide := "a" + strings.Repeat("|a", 200)
	cases := []struct {
		s    string
		at   int
		code api.Errno
	}{
		{"", 0, api.ErrEnd}, {"^", 1, api.ErrEnd}, {"(", 1, api.ErrEnd}, {"a.", 2, api.ErrEnd}, {"a|", 2, api.ErrEnd}, {"(a", 2, api.ErrEnd}, {"(a.(b", 5, api.ErrEnd}, {"(a*", 3, api.ErrEnd},
		{")", 0, api.ErrForm}, {"*", 0, api.ErrForm}, {"^(", 1, api.ErrForm}, {"^^a", 1, api.ErrForm}, {"a..b", 2, api.ErrForm}, {"a.|b", 2, api.ErrForm}, {"(|a)", 1, api.ErrForm}, {"(a b)", 2, api.ErrForm}, {"(a:", 2, api.ErrForm}, {"MATCH", 0, api.ErrForm}, {"a.MATCH", 2, api.ErrForm}, {"5", 0, api.ErrForm}, {"a.)", 2, api.ErrForm}, {"(()", 3, api.ErrEnd},
		{wide, 0, api.ErrLong}, {wide + " a", 0, api.ErrLong}, {wide + ".", 402, api.ErrEnd}, {"a" + strings.Repeat("*", 32), 0, api.ErrLong},
		{"a ;", 2, api.ErrForm}, {"a 'b", 2, api.ErrEnd}, {"a. 1000000000001", 3, api.ErrLong},
	}
	for _, c := range cases {
		if r, at, code := Parse(c.s); at != c.at || code != c.code || !Same(r, api.Regex{}) {
			t.Errorf("%.20q: %d %v", c.s, at, code)
		}
	}
	if _, n, code := Parse("a" + strings.Repeat("*", 31)); n != 32 || code != api.OK {
		t.Error(n, code)
	}
	if r, n, code := Read([]api.Word{{Kind: api.WName, Text: "1x"}}); n != 0 || code != api.ErrLong || !Same(r, api.Regex{}) {
		t.Error(n, code)
	}
}

func TestSymsSizeOneSame(t *testing.T) {
	x, _, _ := Parse("^b.a.(b|^a|a)*.a")
	want := []api.Sym{{Label: "a"}, {Label: "a", Back: true}, {Label: "b"}, {Label: "b", Back: true}}
	if !slices.Equal(Syms(x), want) || Size(x) != 6 {
		t.Error(Syms(x), Size(x))
	}
	if s, ok := One(back("a")); s != (api.Sym{Label: "a", Back: true}) || !ok {
		t.Error(s, ok)
	}
	if s, ok := One(of(api.RStar, sym("a"))); s != (api.Sym{}) || ok {
		t.Error(s, ok)
	}
	if Same(sym("a"), back("a")) || Same(sym("a"), sym("b")) || Same(of(api.RStar, sym("a")), of(api.RPlus, sym("a"))) || Same(of(api.RSeq, sym("a")), of(api.RSeq, sym("a"), sym("a"))) || !Same(api.Regex{Parts: []api.Regex{}}, api.Regex{}) {
		t.Error("same")
	}
	y, _, _ := Parse("a.b.(c|a)*")
	if s, _ := Print(Turn(y)); s != "(^c|^a)*.^b.^a" {
		t.Error(s)
	}
	if len(Syms(api.Regex{})) != 0 || Size(api.Regex{}) != 0 {
		t.Error("none")
	}
}

func TestLongRowsAreFast(t *testing.T) {
	x := sym("a")
	for range 10 {
		x = of(api.RStar, of(api.RSeq, x, of(api.ROpt, sym("b")), of(api.RStar, sym("a"))))
	}
	w := slices.Repeat([]api.Sym{{Label: "a"}}, 20000)
	if !Match(x, w...) || Match(x, append(w, api.Sym{Label: "c"})...) {
		t.Error("match")
	}
}
