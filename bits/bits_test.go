package bits_test

import (
	"math"
	"math/big"
	"testing"

	"bridleway/api"
	. "bridleway/bits"
)

var some = []uint64{0, 1, 2, 3, 5, 255, 1 << 31, 1<<32 - 1, 1 << 32, 1<<61 - 1, 1 << 61, 1<<62 - 1, 1 << 62, 1<<62 + 1, 1 << 63, math.MaxUint64}

func TestZigAndZag(t *testing.T) {
	want := map[int64]uint64{0: 0, -1: 1, 1: 2, -2: 3, 2: 4, math.MaxInt64: math.MaxUint64 - 1, math.MinInt64: math.MaxUint64}
	for n, u := range want {
		if Zig(n) != u || Zag(u) != n {
			t.Error(n, Zig(n), Zag(u))
		}
	}
	for _, u := range some {
		if Zig(Zag(u)) != u {
			t.Error(u)
		}
	}
}

func TestAddAndTimesStopAtMost(t *testing.T) {
	most := new(big.Int).SetUint64(api.Most)
	cut := func(n *big.Int) uint64 {
		if n.Cmp(most) > 0 {
			return api.Most
		}
		return n.Uint64()
	}
	for _, a := range some {
		for _, b := range some {
			x := new(big.Int).SetUint64(min(a, api.Most))
			y := new(big.Int).SetUint64(min(b, api.Most))
			if got := Add(a, b); got != cut(new(big.Int).Add(x, y)) {
				t.Error("add", a, b, got)
			}
			if got := Times(a, b); got != cut(new(big.Int).Mul(x, y)) {
				t.Error("times", a, b, got)
			}
		}
	}
}

func TestLogAndCount(t *testing.T) {
	if Log(0) != -1 || Count(0) != 0 || Count(math.MaxUint64) != 64 || Count(0b1011) != 3 {
		t.Error("ends")
	}
	for i := range 64 {
		if Log(1<<i) != i || Log(1<<i|1) != i || Count(1<<i) != 1 {
			t.Error(i)
		}
	}
}

func TestShift(t *testing.T) {
	for _, u := range some {
		for n := -70; n <= 70; n++ {
			want := new(big.Int).SetUint64(u)
			if n >= 0 {
				want.Lsh(want, uint(n))
			} else {
				want.Rsh(want, uint(-n))
			}
			want.And(want, new(big.Int).SetUint64(math.MaxUint64))
			if Shift(u, n) != want.Uint64() {
				t.Error(u, n, Shift(u, n))
			}
		}
		if Shift(u, math.MaxInt) != 0 || Shift(u, math.MinInt) != 0 {
			t.Error(u)
		}
	}
}

func TestTurn(t *testing.T) {
	if Turn(0b0001011, 4) != 0b1101 || Turn(0xf0, 4) != 0 || Turn(1, 64) != 1<<63 {
		t.Error("turn")
	}
	for _, u := range some {
		if Turn(u, 0) != 0 || Turn(u, math.MinInt) != 0 || Turn(u, math.MaxInt) != Turn(u, 64) {
			t.Error("ends", u)
		}
		for wide := range 65 {
			cut := u & (Shift(1, wide) - 1)
			if Turn(Turn(u, wide), wide) != cut {
				t.Error(u, wide)
			}
		}
	}
}

func TestFitsAndCut(t *testing.T) {
	if Cut(200, 8) != -56 || Cut(-129, 8) != 127 || Cut(7, 99) != 7 || Cut(3, 0) != -1 || Cut(2, -5) != 0 {
		t.Error("cut")
	}
	for wide := 1; wide <= 64; wide++ {
		low := int64(math.MinInt64) >> (64 - wide)
		high := ^low
		if !Fits(low, wide) || !Fits(high, wide) {
			t.Error(wide)
		}
		if wide < 64 && (Fits(low-1, wide) || Fits(high+1, wide) || Cut(high+1, wide) != low || Cut(low-1, wide) != high) {
			t.Error("beyond", wide)
		}
	}
	if Fits(1, 0) || !Fits(-1, 0) || !Fits(0, math.MinInt) || !Fits(math.MinInt64, math.MaxInt) {
		t.Error("brought between")
	}
}

func TestPackAndParts(t *testing.T) {
	for _, u := range some {
		if a, b := Parts(u); Pack(a, b) != u || uint64(a) != u/(1<<32) || uint64(b) != u%(1<<32) {
			t.Error(u, a, b)
		}
	}
	if Pack(1, 2) != 1<<32+2 || Pack(math.MaxUint32, 0) != 0xffffffff00000000 {
		t.Error("pack")
	}
}
