package heap_test

import (
	"math/rand"
	"slices"
	"testing"

	"bridleway/api"
	. "bridleway/heap"
)

func random(r *rand.Rand) api.Item {
	x := api.Item{Cost: r.Intn(4) - 1, Place: r.Intn(2), Rank: r.Intn(2)}
	for range r.Intn(3) {
		x.Nodes = append(x.Nodes, r.Intn(3)-1)
	}
	return x
}

func TestOrder(t *testing.T) {
	rising := []api.Item{
		{Cost: -1, Nodes: []int{9}, Place: 9, Rank: 9}, {}, {Rank: 1}, {Place: 1}, {Nodes: []int{0}}, {Nodes: []int{0, 0}}, {Nodes: []int{0, 1}}, {Nodes: []int{1}}, {Cost: 2},
	}
	for i, a := range rising {
		for j, b := range rising {
			want := 0
			if i < j {
				want = -1
			} else if i > j {
				want = 1
			}
			if Order(a, b) != want {
				t.Error(a, b)
			}
		}
	}
	if !Same(rising, rising) || Same(rising, rising[1:]) || Same(rising[:1], rising[1:2]) || !Same(nil, []api.Item{}) || !Same([]api.Item{{Nodes: []int{}}}, []api.Item{{}}) {
		t.Error("same")
	}
}

func TestPopsInOrder(t *testing.T) {
	r := rand.New(rand.NewSource(34))
	for range 500 {
		var l []api.Item
		for range r.Intn(10) {
			l = append(l, random(r))
		}
		h := New(l...)
		for range r.Intn(30) {
			if r.Intn(3) == 0 {
				checkPop(t, h, &l)
				continue
			}
			x := random(r)
			h.Push(x)
			l = append(l, x)
		}
		for len(l) > 0 {
			checkPop(t, h, &l)
		}
		checkPop(t, h, &l)
	}
}

// checkPop holds a heap against a list of all its items, and pops from both.
func checkPop(t *testing.T, h *Heap, l *[]api.Item) {
	t.Helper()
	slices.SortFunc(*l, Order)
	if h.Len() != len(*l) || !Same(h.List(), *l) {
		t.Fatal(h.List(), *l)
	}
	first, ok := h.Peek()
	x, ok2 := h.Pop()
	if ok != (len(*l) > 0) || ok2 != ok || Order(first, x) != 0 {
		t.Fatal(first, x)
	}
	if ok {
		if Order(x, (*l)[0]) != 0 {
			t.Fatal(x)
		}
		*l = (*l)[1:]
	} else if x.Nodes != nil || x.Cost != 0 {
		t.Fatal(x)
	}
}

func TestMemory(t *testing.T) {
	nodes := []int{5}
	l := []api.Item{{Cost: 2, Nodes: nodes}, {Cost: 1, Nodes: nodes}}
	h := New(l...)
	h.Push(l[0])
	nodes[0] = 9
	first, _ := h.Peek()
	first.Nodes[0] = 7
	h.List()[0].Nodes[0] = 7
	if l[0].Cost != 2 {
		t.Error("sorted in place")
	}
	for range 3 {
		if x, _ := h.Pop(); x.Nodes[0] != 5 {
			t.Error(x)
		}
	}
}

func TestNil(t *testing.T) {
	var h *Heap
	h.Push(api.Item{})
	_, ok := h.Pop()
	_, ok2 := h.Peek()
	if ok || ok2 || h.Len() != 0 || len(h.List()) != 0 {
		t.Error("nil")
	}
	if New().Len() != 0 {
		t.Error("empty")
	}
}
