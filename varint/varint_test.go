package varint_test

import (
	"math"
	"slices"
	"strings"
	"testing"

	"bridleway/api"
	. "bridleway/varint"
)

var some = []uint64{0, 1, 127, 128, 300, 16383, 16384, 1 << 31, 1<<35 - 1, 1 << 35, 1 << 62, 1<<63 - 1, 1 << 63, math.MaxUint64}

func TestPut(t *testing.T) {
	if Put(300) != "\xac\x02" || Put() != "" || Put(0) != "\x00" || Put(127, 128) != "\x7f\x80\x01" {
		t.Error("put")
	}
	if Put(math.MaxUint64) != strings.Repeat("\xff", 9)+"\x01" {
		t.Error("greatest")
	}
	for _, u := range some {
		s := Put(u)
		if Size(u) != len(s) {
			t.Error(u, Size(u))
		}
		for _, tail := range []string{"", "\x00", "\x80", "\xff\xff"} {
			if got, n, code := Get(s + tail); got != u || n != len(s) || code != api.OK {
				t.Error(u, got, n, code)
			}
		}
		for i := range s {
			if got, n, code := Get(s[:i]); got != 0 || n != 0 || code != api.ErrEnd {
				t.Error(u, i, code)
			}
		}
	}
}

func TestGetRefuses(t *testing.T) {
	want := map[string]api.Errno{
		"":                                  api.ErrEnd,
		"\x80":                              api.ErrEnd,
		strings.Repeat("\x80", 9):           api.ErrEnd,
		strings.Repeat("\x80", 10):          api.ErrForm,
		strings.Repeat("\x80", 11):          api.ErrForm,
		"\x80\x00":                          api.ErrForm,
		"\xff\x80\x00":                      api.ErrForm,
		strings.Repeat("\xff", 9) + "\x02":  api.ErrForm,
		strings.Repeat("\x80", 9) + "\x00":  api.ErrForm,
		strings.Repeat("\xff", 10) + "\x00": api.ErrForm,
	}
	for s, code := range want {
		if u, n, got := Get(s); got != code || u != 0 || n != 0 {
			t.Errorf("%x: %v", s, got)
		}
		if u, n, got := GetSigned(s); got != code || u != 0 || n != 0 {
			t.Errorf("%x: %v", s, got)
		}
		if text, n, got := GetText(s, 5); got != code || text != "" || n != 0 {
			t.Errorf("%x: %v", s, got)
		}
	}
}

func TestWhatIsGotIsPutSo(t *testing.T) {
	for a := range 256 {
		for b := range 256 {
			for _, c := range []byte{0, 1, 0x7f, 0x80} {
				s := string([]byte{byte(a), byte(b), c})
				if u, n, code := Get(s); code == api.OK && Put(u) != s[:n] {
					t.Errorf("%x %d", s, u)
				}
			}
		}
	}
}

func TestListAndAll(t *testing.T) {
	s := Put(some...)
	for n := range len(some) + 1 {
		l, size, code := List(s, n)
		if code != api.OK || !slices.Equal(l, some[:n]) || size != len(Put(some[:n]...)) {
			t.Error(n, l, size, code)
		}
	}
	if l, n, code := List(s, len(some)+1); l != nil || n != 0 || code != api.ErrEnd {
		t.Error(l, n, code)
	}
	if _, _, code := List("\x01\x80\x00", math.MaxInt); code != api.ErrForm {
		t.Error(code)
	}
	if l, n, code := List(s, -1); l != nil || n != 0 || code != api.ErrArg {
		t.Error(l, n, code)
	}
	if l, code := All(s); code != api.OK || !slices.Equal(l, some) {
		t.Error(l, code)
	}
	if l, code := All(s + "\x80"); l != nil || code != api.ErrEnd {
		t.Error(l, code)
	}
	if l, code := All("\x80\x00\x80"); l != nil || code != api.ErrForm {
		t.Error(l, code)
	}
	if l, code := All(""); l != nil || code != api.OK {
		t.Error(l, code)
	}
}

func TestSigned(t *testing.T) {
	if Signed(0, -1, 1, 150) != "\x00\x01\x02\xac\x02" {
		t.Errorf("%x", Signed(0, -1, 1, 150))
	}
	for _, n := range []int64{0, -1, 1, math.MaxInt64, math.MinInt64} {
		s := Signed(n)
		if got, size, code := GetSigned(s + "\xff"); got != n || size != len(s) || code != api.OK {
			t.Error(n, got)
		}
	}
}

func TestText(t *testing.T) {
	for _, text := range []string{"", "a", strings.Repeat("x", 300), "\x00\xff"} {
		s := Text(text)
		if s != Put(uint64(len(text)))+text {
			t.Error(s)
		}
		if got, n, code := GetText(s+"more", len(text)); got != text || n != len(s) || code != api.OK {
			t.Error(got, n, code)
		}
		if got, n, code := GetText(s, len(text)); got != text || n != len(s) || code != api.OK {
			t.Error(got, n, code)
		}
		if got, n, code := GetText(s, len(text)-1); got != "" || n != 0 || code != api.ErrLong {
			t.Error(got, n, code)
		}
		if text == "" {
			continue
		}
		if got, n, code := GetText(s[:len(s)-1], math.MaxInt); got != "" || n != 0 || code != api.ErrEnd {
			t.Error(got, n, code)
		}
		if _, _, code := GetText(s[:len(s)-1], 0); code != api.ErrLong {
			t.Error(code)
		}
	}
	if _, _, code := GetText(Put(math.MaxUint64), math.MaxInt); code != api.ErrLong {
		t.Error(code)
	}
	if _, _, code := GetText(Put(math.MaxInt64)+"x", math.MaxInt); code != api.ErrEnd {
		t.Error(code)
	}
}
