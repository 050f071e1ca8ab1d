package value_test

import (
	"strings"
	"testing"

	"bridleway/api"
	. "bridleway/value"
)

func num(n int) api.Value     { return api.Value{Kind: api.VInt, Int: n} }
func text(s string) api.Value { return api.Value{Kind: api.VText, Text: s} }

func TestGood(t *testing.T) {
	good := []api.Value{{}, num(0), num(api.MaxInt), num(-api.MaxInt), text(""), text(strings.Repeat("~", 100)), text(" ")}
	bad := []api.Value{{Int: 1}, {Text: "a"}, num(api.MaxInt + 1), num(-api.MaxInt - 1), {Kind: 1, Text: "a"}, {Kind: 2, Int: 1}, text(strings.Repeat("a", 101)), text("\x1f"), text("\x7f"), text("é"), {Kind: 3}, {Kind: -1}}
	for _, v := range good {
		if !Good(v) {
			t.Error(v)
		}
	}
	for _, v := range bad {
		if Good(v) {
			t.Error(v)
		}
	}
}

func TestName(t *testing.T) {
	for _, s := range []string{"a", "z", "A", "Z", "a_0", "a9", "zZ", "aA", strings.Repeat("x", 30)} {
		if !Name(s) {
			t.Error(s)
		}
	}
	for _, s := range []string{"", "_a", "1a", "a-b", "a b", "é", "aé", strings.Repeat("x", 31), "a\n"} {
		if Name(s) {
			t.Error(s)
		}
	}
}

func TestCmpAndTest(t *testing.T) {
	rising := []api.Value{{}, num(-5), num(0), num(7), text(""), text("B"), text("a"), text("ab"), {Kind: 5}}
	for i, a := range rising {
		for j, b := range rising {
			want := 0
			if i < j {
				want = -1
			} else if i > j {
				want = 1
			}
			if Cmp(a, b) != want {
				t.Error(a, b)
			}
			checkTest(t, a, b, want)
		}
	}
}

func checkTest(t *testing.T, a, b api.Value, c int) {
	t.Helper()
	want := [...]bool{false, c == 0, c != 0, c < 0, c <= 0, c > 0, c >= 0, false}
	for op := -1; op <= 7; op++ {
		expect := op >= 0 && want[op]
		if a.Kind != b.Kind {
			expect = op == api.Ne
		}
		if a.Kind == api.VNone || b.Kind == api.VNone {
			expect = false
		}
		if Test(op, a, b) != expect {
			t.Error(op, a, b)
		}
	}
}

func TestPrintAndRead(t *testing.T) {
	want := map[string]api.Value{"0": num(0), "-7": num(-7), "1000000000000": num(api.MaxInt), "-1000000000000": num(-api.MaxInt), "''": text(""), `'a\'b\\'`: text(`a'b\`), "'~ '": text("~ ")}
	for s, v := range want {
		if got, code := Print(v); got != s || code != api.OK {
			t.Error(got, code)
		}
		if got, n, code := Read(s + " 1'"); got != v || n != len(s) || code != api.OK {
			t.Error(s, got, n, code)
		}
	}
	for _, v := range []api.Value{{}, num(api.MaxInt + 1), text("\n"), {Kind: 9}} {
		if s, code := Print(v); s != "" || code != api.ErrForm {
			t.Error(v, s, code)
		}
	}
}

func TestReadOthers(t *testing.T) {
	if v, n, code := Read("-0007x"); v != num(-7) || n != 5 || code != api.OK {
		t.Error(v, n, code)
	}
	if v, n, code := Read("-0"); v != num(0) || n != 2 || code != api.OK {
		t.Error(v, n, code)
	}
	if v, n, code := Read(strings.Repeat("0", 500) + "1"); v != num(1) || n != 501 || code != api.OK {
		t.Error(v, n, code)
	}
	hundred := strings.Repeat("a", 100)
	if v, n, code := Read("'" + strings.Repeat(`\'`, 100) + "'"); v != text(strings.Repeat("'", 100)) || n != 202 || code != api.OK {
		t.Error(v, n, code)
	}
	want := map[string]api.Errno{
		"": api.ErrEnd, "-": api.ErrEnd, "'": api.ErrEnd, "'a": api.ErrEnd, `'a\`: api.ErrEnd, `'\'`: api.ErrEnd,
		"a": api.ErrForm, "-a": api.ErrForm, "--1": api.ErrForm, "+1": api.ErrForm, " 1": api.ErrForm, "'\n'": api.ErrForm, "'\x7f'": api.ErrForm, `'\n'`: api.ErrForm, `'\`: api.ErrEnd,
		"1000000000001": api.ErrLong, "-1000000000001": api.ErrLong, strings.Repeat("9", 100): api.ErrLong,
		"'" + hundred + "b'": api.ErrLong, "'" + hundred + "b": api.ErrLong, "'" + hundred + "b\n": api.ErrLong,
		"'" + hundred + "\n": api.ErrForm, "'" + hundred: api.ErrEnd, "'" + hundred + `\x'`: api.ErrForm, "'" + hundred + `\''`: api.ErrLong, "'" + hundred + `\`: api.ErrEnd,
		"'a\n" + hundred + "b": api.ErrForm,
	}
	for s, code := range want {
		if v, n, got := Read(s); got != code || n != 0 || v != (api.Value{}) {
			t.Errorf("%q: %v %d", s, got, n)
		}
	}
}

func TestSignAndOp(t *testing.T) {
	for op, s := range map[int]string{1: "=", 2: "<>", 3: "<", 4: "<=", 5: ">", 6: ">="} {
		if Sign(op) != s {
			t.Error(op)
		}
		for _, tail := range []string{"", " 1", "a<"} {
			if got, n := Op(s + tail); got != op || n != len(s) {
				t.Error(s, got, n)
			}
		}
	}
	if Sign(0) != "" || Sign(7) != "" || Sign(-1) != "" {
		t.Error("sign")
	}
	for _, s := range []string{"", "a", " <", "!="} {
		if op, n := Op(s); op != 0 || n != 0 {
			t.Error(s, op, n)
		}
	}
	if op, n := Op("==>"); op != api.Eq || n != 1 {
		t.Error(op, n)
	}
}

func TestLeast(t *testing.T) {
	if v, ok := Least(); ok || v != (api.Value{}) {
		t.Error(v, ok)
	}
	if v, ok := Least(num(7)); !ok || v != num(7) {
		t.Error(v, ok)
	}
	if v, ok := Least(text("a"), num(3), num(-3), text("")); !ok || v != num(-3) {
		t.Error(v, ok)
	}
}
