package bitset_test

import (
	"math"
	"math/rand"
	"slices"
	"testing"

	. "bridleway/bitset"
)

func TestOnlySmallNumbers(t *testing.T) {
	s := New(-1, 0, 64, 65535, 65536, 64, math.MaxInt, math.MinInt)
	if !slices.Equal(s.List(), []int{0, 64, 65535}) || s.Len() != 3 {
		t.Error(s.List())
	}
	for _, n := range []int{-1, 65536, math.MinInt, math.MaxInt} {
		if s.Add(n) || s.Has(n) || s.Cut(n) {
			t.Error(n)
		}
	}
	if s.Add(64) || !s.Add(63) || s.Add(63) || !s.Cut(63) || s.Cut(63) || s.Has(63) {
		t.Error("add and cut")
	}
}

func TestNext(t *testing.T) {
	if n, ok := New(0, 5).Next(0); n != 0 || !ok {
		t.Error(n, ok)
	}
	if n, ok := New(0, 5).Next(-7); n != 0 || !ok {
		t.Error(n, ok)
	}
	s := New(3, 63, 64, 200)
	want := map[int]int{math.MinInt: 3, -1: 3, 0: 3, 3: 3, 4: 63, 63: 63, 64: 64, 65: 200, 200: 200}
	for n, next := range want {
		if got, ok := s.Next(n); got != next || !ok {
			t.Error(n, got, ok)
		}
	}
	for _, n := range []int{201, 65535, 65536, math.MaxInt} {
		if got, ok := s.Next(n); got != 0 || ok {
			t.Error(n, got, ok)
		}
	}
}

func TestWords(t *testing.T) {
	s := New(0, 64)
	if !slices.Equal(s.Words(), []uint64{1, 1}) {
		t.Error(s.Words())
	}
	s.Add(1000)
	s.Cut(1000)
	if !slices.Equal(s.Words(), []uint64{1, 1}) {
		t.Error(s.Words())
	}
	one := New(5)
	if one.Cut(5); len(one.Words()) != 0 {
		t.Error(one.Words())
	}
	s.Words()[0] = 0
	s.List()[0] = 9
	if !s.Has(0) || s.Has(9) {
		t.Error("shared")
	}
	if len(New().Words()) != 0 || len(New().List()) != 0 {
		t.Error("empty")
	}
}

func TestAgainstMaps(t *testing.T) {
	r := rand.New(rand.NewSource(3))
	for range 300 {
		span := []int{10, 130, 65536}[r.Intn(3)]
		a, b := New(), New()
		inA, inB := map[int]int{}, map[int]int{}
		for range r.Intn(40) {
			n, m := r.Intn(span), r.Intn(span)
			if a.Add(n) != (inA[n] == 0) || b.Add(m) != (inB[m] == 0) {
				t.Fatal("add")
			}
			inA[n], inB[m] = 1, 1
			if k := r.Intn(span); a.Cut(k) != (inA[k] == 1) {
				t.Fatal("cut")
			} else {
				delete(inA, k)
			}
		}
		check(t, a, b, inA, inB)
	}
}

func check(t *testing.T, a, b *Set, inA, inB map[int]int) {
	t.Helper()
	pick := func(ok func(n int) bool) []int {
		var l []int
		for n := range 65536 {
			if ok(n) {
				l = append(l, n)
			}
		}
		return l
	}
	or := pick(func(n int) bool { return inA[n]+inB[n] > 0 })
	and := pick(func(n int) bool { return inA[n]+inB[n] == 2 })
	minus := pick(func(n int) bool { return inA[n] > inB[n] })
	if !slices.Equal(Or(a, b).List(), or) || !slices.Equal(And(a, b).List(), and) || !slices.Equal(Minus(a, b).List(), minus) {
		t.Fatal("or, and, minus")
	}
	same := len(or) == len(and)
	if Same(a, b) != same || slices.Equal(a.Words(), b.Words()) != same || Within(a, b) != (len(minus) == 0) || Meets(a, b) != (len(and) > 0) {
		t.Fatal("judged")
	}
	c := a.Copy()
	if !Same(a, c) || a.Len() != len(inA) {
		t.Fatal("copy")
	}
	if c.Add(7); inA[7] == 0 && a.Has(7) {
		t.Fatal("copy is shared")
	}
}

func TestNil(t *testing.T) {
	var s *Set
	if s.Add(1) || s.Cut(1) || s.Has(1) || s.Len() != 0 || len(s.List()) != 0 || len(s.Words()) != 0 {
		t.Error("nil")
	}
	if n, ok := s.Next(0); n != 0 || ok {
		t.Error("next")
	}
	if c := s.Copy(); c == nil || !c.Add(5) {
		t.Error("copy")
	}
	if !Same(nil, New()) || !Within(nil, nil) || Meets(nil, New(1)) || !slices.Equal(Or(nil, New(1)).List(), []int{1}) || And(New(1), nil).Len() != 0 || Minus(nil, New(1)).Len() != 0 || Minus(New(1), nil).Len() != 1 {
		t.Error("of two")
	}
}
