package meter_test

import (
	"math"
	"slices"
	"testing"

	"bridleway/api"
	. "bridleway/meter"
)

func make5(t *testing.T, most int) *Meter {
	t.Helper()
	m, code := New(most)
	if code != api.OK {
		t.Fatal(code)
	}
	return m
}

func TestNew(t *testing.T) {
	for _, most := range []int{0, 1, 1000000000000} {
		if m := make5(t, most); m.Left() != most || m.All() != 0 {
			t.Error(most)
		}
	}
	for _, most := range []int{-1, 1000000000001, math.MinInt, math.MaxInt} {
		if m, code := New(most); m != nil || code != api.ErrArg {
			t.Error(most, code)
		}
	}
}

func TestAdd(t *testing.T) {
	m := make5(t, 5)
	if m.Add("a", 3) != api.OK || m.Add("b", 3) != api.ErrFull || m.All() != 3 || m.Of("b") != 0 || m.Left() != 2 {
		t.Error("example")
	}
	if m.Add("", -1) != api.ErrForm || m.Add("1", 99) != api.ErrForm || m.Add("a", -1) != api.ErrArg || m.Add("a", math.MaxInt) != api.ErrFull || m.Add("c", 0) != api.OK {
		t.Error("codes")
	}
	if m.Add("B", 1) != api.OK || m.Add("a", 1) != api.OK || m.Left() != 0 || m.Add("a", 0) != api.OK || m.Add("a", 1) != api.ErrFull {
		t.Error("full")
	}
	if !slices.Equal(m.Names(), []string{"B", "a"}) || !slices.Equal(m.Lines(), []string{"B 1", "a 4", "all 5"}) {
		t.Error(m.Lines())
	}
	if m.Clear() != 5 || m.All() != 0 || m.Left() != 5 || len(m.Names()) != 0 || m.Of("a") != 0 || !slices.Equal(m.Lines(), []string{"all 0"}) || m.Clear() != 0 {
		t.Error("clear")
	}
}

func TestJoin(t *testing.T) {
	m, o := make5(t, 10), make5(t, 100)
	m.Add("a", 2)
	o.Add("a", 3)
	o.Add("b", 1)
	if m.Join(o) != api.OK || !slices.Equal(m.Lines(), []string{"a 5", "b 1", "all 6"}) || o.All() != 4 {
		t.Error(m.Lines())
	}
	o.Add("c", 1)
	if m.Join(o) != api.ErrFull || m.All() != 6 || m.Of("c") != 0 {
		t.Error(m.Lines())
	}
	if just := make5(t, 5); just.Join(o) != api.OK || just.Left() != 0 || just.Join(just) != api.ErrFull || just.Join(make5(t, 9)) != api.OK {
		t.Error("just as much as is left")
	}
	if o.Join(o) != api.OK || !slices.Equal(o.Lines(), []string{"a 6", "b 2", "c 2", "all 10"}) {
		t.Error(o.Lines())
	}
	if m.Join(m) != api.ErrFull || m.Join(nil) != api.ErrArg || m.All() != 6 {
		t.Error("join")
	}
}

func TestWithin(t *testing.T) {
	for _, x := range []struct {
		n, base, factor int
		ok              bool
	}{
		{0, 5, 0, true}, {1, 5, 0, false}, {0, 0, 0, true}, {6, 2, 3, true}, {7, 2, 3, false}, {0, 0, 5, true}, {1, 0, math.MaxInt, false}, {math.MaxInt, math.MaxInt, math.MaxInt, true}, {math.MaxInt, math.MaxInt, 1, true}, {math.MaxInt, math.MaxInt - 1, 1, false}, {math.MaxInt, 1 << 32, 1 << 32, true}, {-1, 5, 5, false}, {1, -5, -5, false}, {0, -1, 0, false}, {0, 0, math.MinInt, false},
	} {
		if Within(x.n, x.base, x.factor) != x.ok {
			t.Error(x)
		}
	}
}

func TestNil(t *testing.T) {
	var m *Meter
	if m.Add("a", 1) != api.ErrArg || m.Of("a") != 0 || m.All() != 0 || m.Left() != 0 || len(m.Names())+len(m.Lines()) != 0 || m.Join(make5(t, 1)) != api.ErrArg || m.Clear() != 0 {
		t.Error("nil")
	}
}
