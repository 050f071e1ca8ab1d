package parse_test

import (
	"math/rand"
	"slices"
	"strconv"
	"strings"
	"testing"

	"bridleway/api"
	"bridleway/lex"
	. "bridleway/parse"
	"bridleway/query"
)

func sym(label string) api.Regex { return api.Regex{Kind: api.RSym, Sym: api.Sym{Label: label}} }

func TestNorm(t *testing.T) {
	want := map[string]string{
		"MATCH (x)<-[a]-(y) RETURN x":                                                    "MATCH (x), (y), (y)-[a]->(x) RETURN x",
		"MATCH(x:A)-[a.b]->(x)RETURN x LIMIT 5":                                          "MATCH (x:A), (x)-[a.b]->(x) RETURN x LIMIT 5",
		"MATCH (x)-[a]->(y)<-[r:b|c 3]-(z), (y)-[(a.b).c]->(x:B) RETURN z,r,y,x":         "MATCH (x), (y), (z), (x:B), (x)-[a]->(y), (z)-[r: b|c 3]->(y), (y)-[a.b.c]->(x) RETURN z, r, y, x",
		"MATCH (x {p=1,q<>'a'}), (x) RETURN x ORDER BY COST SKIP 0 LIMIT 7":              "MATCH (x {p = 1, q <> 'a'}), (x) RETURN x ORDER BY COST SKIP 0 LIMIT 7",
		"MATCH (x {p>=01}), (x:A), (x)-[r:()*SHORTEST]->(x) RETURN nothing SKIP 3 COUNT": "MATCH (x {p >= 1}), (x:A), (x)-[r: ()* SHORTEST]->(x) RETURN nothing SKIP 3 COUNT",
	}
	want["MATCH (x {p=1,q<>'a'}), (x) RETURN x ORDER BY COST SKIP 0 LIMIT 7"] = "MATCH (x {p = 1, q <> 'a'}) RETURN x ORDER BY COST SKIP 0 LIMIT 7"
	want["MATCH (x), (x {p=1}), (x:A), (x)-[a]->(x {q=2}) RETURN x"] = "MATCH (x), (x {p = 1}), (x:A), (x {q = 2}), (x)-[a]->(x) RETURN x"
	for s, norm := range want {
		got, code := Norm(s)
		if got != norm || code != api.OK || !Good(s) {
			t.Error(s, got, code)
		}
		if again, code := Norm(got); again != got || code != api.OK {
			t.Error(again, code)
		}
	}
}

func TestParse(t *testing.T) {
	q, at, code := Parse("MATCH (x)<-[r: ^a 30]-(y:B) RETURN x, r")
	want := api.Query{
		Places: []api.Place{{Var: "x"}, {Var: "y", Label: "B"}},
		Paths:  []api.Path{{From: "y", To: "x", Regex: api.Regex{Kind: api.RSym, Sym: api.Sym{Label: "a", Back: true}}, Var: "r", Hops: 30}},
		Return: []string{"x", "r"}, Skip: -1, Limit: -1,
	}
	if !query.Same(q, want) || at != 0 || code != api.OK {
		t.Error(q, at, code)
	}
}

// where is a text without its !, and the place of the word that stood behind it.
func where(s string) (string, int) {
	at := strings.Index(s, "!")
	s = strings.Replace(s, "!", "", 1)
	for at < len(s) && s[at] == ' ' {
		at++
	}
	return s, at
}

func TestWordsThatCannotStandThere(t *testing.T) {
	for _, marked := range []string{
		"!(x)", "!RETURN x", "MATCH !RETURN x", "MATCH (x !RETURN x", "MATCH (x), (!RETURN x", "MATCH (x:!RETURN x", "MATCH (x {p = 5 !) RETURN x", "MATCH (x)-[a !RETURN x", "MATCH (x)-[a]->!RETURN x", "MATCH (x {p !) RETURN x", "MATCH (x {p = !) RETURN x", "MATCH (x {!) RETURN x", "MATCH !x", "MATCH (!)", "MATCH (!MATCH)", "MATCH (x! y)", "MATCH (x:!)", "MATCH (x:!5)", "MATCH (x:A!:B)", "MATCH (x {!})", "MATCH (x {p! 5})", "MATCH (x {p !. 5})", "MATCH (x {p =! q})", "MATCH (x {p = 5! q = 6})", "MATCH (x {p = 5,!})", "MATCH (x {p = 5}!{)", "MATCH (x {p !<-[ 5})",
		"MATCH (x)!]->", "MATCH (x)-[!]->(y)", "MATCH (x)-[a!]-(y)", "MATCH (x)<-[a!]->(y)", "MATCH (x)-[a]->!RETURN", "MATCH (x)-[a ! b]->(y)", "MATCH (x)-[a.!]->(y)", "MATCH (x)-[(a!]->(y)", "MATCH (x)-[a !5]->(y)", "MATCH (x)-[a !SHORTEST]->(y)", "MATCH (x)-[r:!]->(y)", "MATCH (x)-[r: a!]->(y)", "MATCH (x)-[r: a !0]->(y)", "MATCH (x)-[r: a !31]->(y)", "MATCH (x)-[r: a !'5']->(y)", "MATCH (x)-[r: a 5 !SHORTEST]->(y)", "MATCH (x)-[r: s!: a 5]->(y)", "MATCH (x)-[a.b!: c 5]->(y)", "MATCH (x)-[a]->(y)-[b]->!-[", "MATCH (x)-[a.!RETURN]->(y)",
		"MATCH (x),! RETURN x", "MATCH (x) !(y) RETURN x", "MATCH (x) RETURN !", "MATCH (x) RETURN !5", "MATCH (x) RETURN x,!,", "MATCH (x) RETURN x ! y", "MATCH (x) RETURN x ORDER !COST", "MATCH (x) RETURN x ORDER BY !x", "MATCH (x) RETURN x SKIP !-1", "MATCH (x) RETURN x SKIP !1000000001", "MATCH (x) RETURN x SKIP !'1'", "MATCH (x) RETURN x SKIP !LIMIT", "MATCH (x) RETURN x LIMIT 5 !SKIP 3", "MATCH (x) RETURN x COUNT !COUNT", "MATCH (x) RETURN x LIMIT 3 !ORDER BY COST", "MATCH (x) RETURN x COUNT !LIMIT 5", "MATCH (x) RETURN x !)",
	} {
		s, at := where(marked)
		s = strings.TrimRight(s, " ")
		code := api.ErrForm
		if at >= len(s) {
			at, code = len(s), api.ErrEnd
		}
		if q, got, gotCode := Parse(s); got != at || gotCode != code || !query.Same(q, api.Query{}) || Good(s) {
			t.Errorf("%q: %d %v", s, got, gotCode)
		}
	}
}

func TestEachBeginningEndsTooEarly(t *testing.T) {
	s := "MATCH (x:A {p = 5, q <= 'a'})-[a.(b|^c)*]->(y)<-[r: a 5]-(z), (z)-[s: () SHORTEST]->(x) RETURN x, y ORDER BY COST SKIP 5 LIMIT 6 COUNT"
	words, _, _ := lex.Words(s)
	whole := 0
	for i := range words {
		begin := lex.Print(words[:i]...)
		q, at, code := Parse(begin)
		if code == api.OK {
			whole++
			continue
		}
		if at != len(begin) || code != api.ErrEnd || !query.Same(q, api.Query{}) {
			t.Error(begin, at, code)
		}
	}
	if whole != 5 || !Good(s) {
		t.Error(whole)
	}
}

func TestErrorsOfWordsAndLengths(t *testing.T) {
	long := "a" + strings.Repeat("|a", 200)
	cases := []struct {
		s    string
		at   int
		code api.Errno
	}{
		{"", 0, api.ErrEnd}, {" \n", 2, api.ErrEnd}, {"MATCH ;", 6, api.ErrForm}, {"5 ;", 2, api.ErrForm}, {"MATCH (x {p = 'a})", 14, api.ErrEnd}, {"MATCH (x {p = 1000000000001})", 14, api.ErrLong}, {strings.Repeat(" ", 4097), 0, api.ErrLong},
		{"MATCH (x)-[" + long + "]->(y) RETURN x", 0, api.ErrLong}, {"MATCH (x)-[" + long + " 5", 0, api.ErrLong}, {"MATCH (x)-[r: " + long, 0, api.ErrLong}, {"MATCH (x)-[" + long + ".]->", 11 + 402, api.ErrForm}, {"MATCH (x)-[a" + strings.Repeat("*", 32), 0, api.ErrLong}, {"MATCH !", 6, api.ErrForm},
		{"MATCH (x:A)" + strings.Repeat(",(x:A)", 16) + " RETURN x", 0, api.ErrLong},
		{"MATCH (x:A)" + strings.Repeat(",(x:A)", 16) + " RETURN x x", 11 + 96 + 10, api.ErrForm},
		{"MATCH (x)" + strings.Repeat("-[a]->(x)", 17) + " RETURN x", 0, api.ErrLong},
		{"MATCH (x {a=1" + strings.Repeat(",a=1", 8) + "}) RETURN x", 0, api.ErrLong},
		{"MATCH (x) RETURN x" + strings.Repeat(",x", 32), 0, api.ErrLong},
	}
	for _, c := range cases {
		q, at, code := Parse(c.s)
		if at != c.at || code != c.code || !query.Same(q, api.Query{}) {
			t.Errorf("%.40q: %d %v", c.s, at, code)
		}
		if s, got := Norm(c.s); s != "" || got != c.code {
			t.Errorf("%.40q: %v", c.s, got)
		}
	}
	for _, s := range []string{"MATCH (x:A)" + strings.Repeat(",(x:A)", 15) + " RETURN x" + strings.Repeat(",x", 31), "MATCH (x)" + strings.Repeat("-[a]->(x)", 16) + " RETURN x", "MATCH (x)" + strings.Repeat(",(x)", 100) + " RETURN x"} {
		if !Good(s) {
			t.Error(s)
		}
	}
}

func random(r *rand.Rand) api.Query {
	q := api.Query{Skip: r.Intn(3) - 1, Limit: r.Intn(3) - 1, Cost: r.Intn(2) == 0, Count: r.Intn(2) == 0}
	names := []string{"x", "y", "z"}[:1+r.Intn(3)]
	for _, v := range names {
		q.Places = append(q.Places, api.Place{Var: v})
	}
	for range r.Intn(3) {
		p := api.Place{Var: names[r.Intn(len(names))], Label: "A"}
		for range r.Intn(3) {
			p.Tests = append(p.Tests, api.Test{Name: "p", Op: 1 + r.Intn(6), Value: api.Value{Kind: api.VText, Text: "o'" + strconv.Itoa(r.Intn(9))}})
		}
		q.Places = append(q.Places, p)
	}
	for i := range r.Intn(3) {
		p := api.Path{From: names[r.Intn(len(names))], To: names[r.Intn(len(names))], Regex: api.Regex{Kind: api.RSeq, Parts: []api.Regex{sym("a"), {Kind: api.RStar, Parts: []api.Regex{sym("b")}}}}}
		switch r.Intn(3) {
		case 0:
			p.Var, p.Hops = "r"+strconv.Itoa(i), 1+r.Intn(30)
		case 1:
			p.Var, p.Short = "r"+strconv.Itoa(i), true
		}
		q.Paths = append(q.Paths, p)
	}
	q.Return = slices.Clone(names)
	return q
}

func TestParseOfPrint(t *testing.T) {
	r := rand.New(rand.NewSource(12))
	for range 1000 {
		q := random(r)
		s, code := query.Print(q)
		if code != api.OK {
			t.Fatal(q)
		}
		if got, at, code := Parse(s); !query.Same(got, q) || at != 0 || code != api.OK {
			t.Fatal(s, got, at, code)
		}
	}
}
