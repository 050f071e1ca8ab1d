package lex_test

import (
	"math/rand"
	"slices"
	"strings"
	"testing"

	"bridleway/api"
	. "bridleway/lex"
)

func num(n int) api.Value     { return api.Value{Kind: api.VInt, Int: n} }
func text(s string) api.Value { return api.Value{Kind: api.VText, Text: s} }

func TestKeyAndSigns(t *testing.T) {
	for _, s := range []string{"MATCH", "RETURN", "ORDER", "BY", "COST", "SKIP", "LIMIT", "COUNT", "SHORTEST"} {
		if !Key(s) || Key(strings.ToLower(s)) || Key(s+"X") {
			t.Error(s)
		}
	}
	want := strings.Fields("-[ ]-> <-[ ]- ( ) { } , : . | ^ * + ? = <> < <= > >=")
	got := Signs()
	if Key("") || !slices.Equal(got, want) {
		t.Error(got)
	}
	got[0] = "x"
	if Signs()[0] != "-[" {
		t.Error("shared")
	}
	for _, s := range want {
		if Sign(s) != s || Sign(s+" ") != s {
			t.Error(s)
		}
	}
	for s, sign := range map[string]string{"": "", "-": "", "]": "", "]-": "]-", "]->": "]->", "]-[": "]-", "<-": "<", "<-[": "<-[", "<>=": "<>", ">==": ">=", "x(": "", "-[[": "-[", "==": "="} {
		if Sign(s) != sign {
			t.Error(s, Sign(s))
		}
	}
}

func TestWords(t *testing.T) {
	l, at, code := Words("(x)-[a]->(y)")
	if len(l) != 9 || at != 0 || code != api.OK {
		t.Error(l, at, code)
	}
	l, at, code = Words("\tMATCH a_1\r\n-5'x\\'' 007 <-[match")
	want := []api.Word{
		{Kind: api.WWord, Text: "MATCH", At: 1},
		{Kind: api.WName, Text: "a_1", At: 7},
		{Kind: api.WValue, Value: num(-5), At: 12},
		{Kind: api.WValue, Value: text("x'"), At: 14},
		{Kind: api.WValue, Value: num(7), At: 20},
		{Kind: api.WSign, Text: "<-[", At: 24},
		{Kind: api.WName, Text: "match", At: 27},
	}
	if !slices.Equal(l, want) || at != 0 || code != api.OK {
		t.Error(l, at, code)
	}
	if l, at, code := Words(" \n"); len(l) != 0 || at != 0 || code != api.OK {
		t.Error(l, at, code)
	}
	if l, _, _ := Words("5a"); len(l) != 2 || l[1].At != 1 {
		t.Error(l)
	}
	for _, s := range []string{"a", "z", "A", "Z", "az", "aZ", "aA", "a0", "a9", "z_"} {
		if l, _, code := Words(s); len(l) != 1 || l[0].Text != s || code != api.OK {
			t.Error(s, l, code)
		}
	}
	for _, s := range []string{"0", "9", "-9", "-0"} {
		if l, _, code := Words(s); len(l) != 1 || l[0].Kind != api.WValue || code != api.OK {
			t.Error(s, l, code)
		}
	}
	if l, _, _ := Words(strings.Repeat("x", 30)); len(l) != 1 {
		t.Error(l)
	}
}

func TestWordsRefuses(t *testing.T) {
	cases := []struct {
		s    string
		at   int
		code api.Errno
	}{
		{"a -", 2, api.ErrForm}, {"a - 5", 2, api.ErrForm}, {"a ]", 2, api.ErrForm}, {"_a", 0, api.ErrForm}, {"a é", 2, api.ErrForm}, {"a \x0b", 2, api.ErrForm}, {"a ;", 2, api.ErrForm},
		{"ab " + strings.Repeat("x", 31), 3, api.ErrForm}, {"a 'b", 2, api.ErrEnd}, {"a 'b\n'", 2, api.ErrForm}, {`a '\x'`, 2, api.ErrForm},
		{"x 1000000000001", 2, api.ErrLong}, {"'" + strings.Repeat("x", 101) + "'", 0, api.ErrLong},
		{strings.Repeat(" ", 4097), 0, api.ErrLong}, {strings.Repeat(";", 4097), 0, api.ErrLong}, {strings.Repeat(" ", 4095) + ";", 4095, api.ErrForm},
		{strings.Repeat("a ", 1001), 0, api.ErrLong}, {strings.Repeat("a ", 1001) + ";", 2002, api.ErrForm},
	}
	for _, c := range cases {
		if l, at, code := Words(c.s); l != nil || at != c.at || code != c.code {
			t.Errorf("%.20q: %d %v", c.s, at, code)
		}
	}
	if l, at, code := Words(strings.Repeat("a ", 1000)); len(l) != 1000 || at != 0 || code != api.OK {
		t.Error(len(l), code)
	}
	if l, _, code := Words(strings.Repeat(" ", 4096)); len(l) != 0 || code != api.OK {
		t.Error(code)
	}
}

func TestPrintAndSame(t *testing.T) {
	pool := []api.Word{{Kind: api.WName, Text: "a"}, {Kind: api.WName, Text: "RETURNx"}, {Kind: api.WWord, Text: "BY"}, {Kind: api.WValue, Value: num(-3)}, {Kind: api.WValue, Value: text(`'\ `)}}
	for _, s := range Signs() {
		pool = append(pool, api.Word{Kind: api.WSign, Text: s})
	}
	r := rand.New(rand.NewSource(2))
	for range 500 {
		var l []api.Word
		for range r.Intn(12) {
			l = append(l, pool[r.Intn(len(pool))])
		}
		got, at, code := Words(Print(l...))
		if !Same(got, l) || at != 0 || code != api.OK {
			t.Fatal(Print(l...), got)
		}
		if len(l) > 0 && (Same(l, l[1:]) || Same(l, append(slices.Clone(l[1:]), api.Word{Kind: 9}))) {
			t.Fatal("same")
		}
	}
	if Print() != "" || Print(pool[0], pool[4], pool[5]) != `a '\'\\ ' -[` {
		t.Error(Print(pool[0], pool[4], pool[5]))
	}
	if !Same([]api.Word{{At: 1}}, []api.Word{{At: 2}}) || Same([]api.Word{{Kind: 1}}, []api.Word{{Kind: 2}}) || Same([]api.Word{{Text: "a"}}, []api.Word{{}}) || Same([]api.Word{{Value: num(1)}}, []api.Word{{}}) {
		t.Error("same")
	}
}
