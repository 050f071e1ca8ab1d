package mark_test

import (
	"math"
	"math/rand"
	"slices"
	"strings"
	"testing"

	"bridleway/anyk"
	"bridleway/api"
	"bridleway/costs"
	"bridleway/heap"
	. "bridleway/mark"
	"bridleway/tree"
	"bridleway/varint"
)

func random(r *rand.Rand) *costs.Costs {
	n := r.Intn(5)
	f := api.Forest{Links: make([][]int, n), Loops: make([][]int, n)}
	p := api.Parts{Nodes: make([][]api.Link, n), Links: make([][]api.Link, n)}
	for v := range n {
		f.Vars = append(f.Vars, string(rune('x'+v)))
		f.Order = append(f.Order, v)
		f.Parent = append(f.Parent, r.Intn(v+1)-1)
		for a := range 4 {
			if r.Intn(4) > 0 {
				p.Nodes[v] = append(p.Nodes[v], api.Link{A: a, B: a, Cost: r.Intn(3), N: 1})
			}
			for b := range 4 {
				if f.Parent[v] >= 0 && r.Intn(3) > 0 {
					p.Links[v] = append(p.Links[v], api.Link{A: a, B: b, Cost: r.Intn(4), N: 1})
				}
			}
		}
	}
	t, _ := tree.New(f, p)
	return costs.New(t)
}

func apart(t *testing.T, sizes ...int) *costs.Costs {
	t.Helper()
	var f api.Forest
	var p api.Parts
	for v, n := range sizes {
		f.Vars = append(f.Vars, "x")
		f.Order = append(f.Order, v)
		f.Parent = append(f.Parent, -1)
		f.Links = append(f.Links, nil)
		f.Loops = append(f.Loops, nil)
		var nodes []api.Link
		for i := range n {
			nodes = append(nodes, api.Link{A: i, B: i, Cost: i, N: 1})
		}
		p.Nodes = append(p.Nodes, nodes)
		p.Links = append(p.Links, nil)
	}
	tr, code := tree.New(f, p)
	if code != api.OK {
		t.Fatal(code)
	}
	return costs.New(tr)
}

func equal(a, b api.Mark) bool {
	return Same(a, b) && slices.Equal(a.Nodes, b.Nodes) && a.Rest == b.Rest
}

func TestStart(t *testing.T) {
	c := apart(t, 2)
	if s, code := Put(c, Start(c)); s != "\x02\x00\x01\x00\x00" || code != api.OK {
		t.Errorf("%x %v", s, code)
	}
}

func TestNextGoesOnFromAnyMark(t *testing.T) {
	r := rand.New(rand.NewSource(37))
	for range 200 {
		c := random(r)
		m := Start(c)
		for i, want := range anyk.All(c, math.MaxInt) {
			s, code := Put(c, m)
			got, getCode := Get(c, s)
			if code != api.OK || getCode != api.OK || !equal(got, m) || !Good(c, m) || m.Told != i || m.Over {
				t.Fatal(m, got)
			}
			row, next, code := Next(c, got)
			if code != api.OK || !slices.Equal(row.Nodes, want.Nodes) || row.Cost != want.Cost {
				t.Fatal(row, want)
			}
			m = next
		}
		if !m.Over || !Good(c, m) || len(m.Items) != 0 {
			t.Fatal(m)
		}
		row, next, code := Next(c, m)
		if code != api.ErrNone || row.Nodes != nil || row.N != 0 || !equal(next, m) {
			t.Fatal(next, code)
		}
		if got, code := Get(c, varint.Put(2, uint64(m.Told), 0)); code != api.OK || !equal(got, m) {
			t.Fatal(got)
		}
	}
}

func TestItem(t *testing.T) {
	r := rand.New(rand.NewSource(38))
	for range 200 {
		c := random(r)
		for _, row := range anyk.All(c, 30) {
			for place := range row.Nodes {
				for rank := -1; rank < 6; rank++ {
					x, ok := Item(c, rank, row.Nodes[:place]...)
					above := -1
					if parent := c.Tree().Parent(place); parent >= 0 {
						above = row.Nodes[parent]
					}
					group := c.Sorted(place, above)
					if ok != (rank >= 0 && rank < len(group)) || ok && (!anyk.Good(c, x) || x.Place != place || x.Rank != rank) {
						t.Fatal(x, ok)
					}
				}
			}
		}
	}
	c := apart(t, 2, 3)
	for _, nodes := range [][]int{{0, 0}, {2}, {-1}, {0, 0, 0}} {
		if x, ok := Item(c, 0, nodes...); ok || x.Nodes != nil {
			t.Error(nodes, x)
		}
	}
	if x, ok := Item(c, 2, 1); !ok || heap.Order(x, api.Item{Cost: 3, Nodes: []int{1, 2}, Place: 1, Rank: 2}) != 0 {
		t.Error(x, ok)
	}
	single := apart(t, 2)
	if x, ok := Item(single, 0, 0); ok || x.Nodes != nil {
		t.Error(x)
	}
	empty := apart(t)
	for _, l := range [][]uint64{{2, 0, 1}, {2, 0, 1, 0}, {2, 0, 1, 1, 0}, {2, 0, 1, 0, 1}} {
		if _, code := Get(empty, varint.Put(l...)); code != api.ErrToken {
			t.Error(l, code)
		}
	}
	if m, code := Get(empty, varint.Put(2, 0, 1, 0, 0)); code != api.OK || !equal(m, Start(empty)) {
		t.Error(m, code)
	}
	if x, ok := Item(empty, 0); !ok || heap.Order(x, api.Item{}) != 0 {
		t.Error(x, ok)
	}
	_, ok := Item(empty, 1)
	_, ok2 := Item(nil, 0)
	_, ok3 := Item(c, math.MaxInt)
	if ok || ok2 || ok3 {
		t.Error("no item")
	}
}

func TestRefuses(t *testing.T) {
	c := apart(t, 2, 3)
	start := Start(c)
	_, second, _ := Next(c, start)
	swapped := second
	swapped.Items = []api.Item{second.Items[1], second.Items[0]}
	slices.SortFunc(swapped.Items, func(x, y api.Item) int { return -heap.Order(x, y) })
	cheap := api.Mark{Items: []api.Item{start.Items[0]}}
	cheap.Items[0].Cost--
	bad := []api.Mark{{}, {Over: true, Items: start.Items}, {Items: start.Items, Rest: 1}, {Items: start.Items, Nodes: []int{0}}, {Items: start.Items, Told: -1}, {Items: start.Items, Told: 1<<53 + 1}, swapped, cheap, {Items: slices.Repeat(start.Items, 4001)}}
	for i, m := range bad {
		s, code := Put(c, m)
		row, next, nextCode := Next(c, m)
		if s != "" || code != api.ErrArg || Good(c, m) || nextCode != api.ErrToken || row.Nodes != nil || !equal(next, api.Mark{}) {
			t.Error(i, code, nextCode)
		}
	}
	for _, l := range [][]uint64{{}, {2}, {2, 0}, {1, 0, 0}, {2, 1<<53 + 1, 0}, {2, 0, 1}, {2, 0, 1, 0}, {2, 0, 1, 2, 0, 0}, {2, 0, 1, 0, 2}, {2, 0, 1, 0, math.MaxUint64}, {2, 0, 1, math.MaxUint64, 0}, {2, 0, 1, 1, 0, 2}, {2, 0, 1, 1, 0, math.MaxUint64}, {2, 0, 0, 0}, {2, 0, 2, 0, 0, 0, 0}, {2, 0, 2, 0, 1, 0, 0}, {2, 0, 4001}, {2, 0, 1, 0, 0, 0}} {
		if m, code := Get(c, varint.Put(l...)); code != api.ErrToken || !equal(m, api.Mark{}) {
			t.Error(l, code)
		}
	}
	for _, s := range []string{"\x02\x00\x80\x00", "\x80", strings.Repeat("\x02", api.MaxToken+1)} {
		if _, code := Get(c, s); code != api.ErrToken {
			t.Error(code)
		}
	}
	if m, code := Get(c, varint.Put(2, 1<<53, 2, 0, 0, 0, 1)); code != api.OK || len(m.Items) != 2 {
		t.Error(m, code)
	}
	if _, next, _ := Next(c, api.Mark{Told: 1 << 53, Items: start.Items}); next.Told != 1<<53 {
		t.Error(next)
	}
}

func TestAnyBytes(t *testing.T) {
	c := apart(t, 3, 3)
	r := rand.New(rand.NewSource(39))
	got := 0
	for range 100000 {
		b := make([]byte, r.Intn(12))
		for i := range b {
			b[i] = byte(r.Intn(4))
		}
		if len(b) > 0 {
			b[0] = 2
		}
		m, code := Get(c, string(b))
		if code != api.OK {
			continue
		}
		got++
		if s, code := Put(c, m); s != string(b) || code != api.OK {
			t.Fatalf("%x %x", b, s)
		}
	}
	if got == 0 {
		t.Error("none")
	}
}

func TestTooManyItems(t *testing.T) {
	// Each row of the first place brings one more of the second: as many wait as rows were told, and one.
	c := apart(t, 5000, 5000)
	var items []api.Item
	for i := range 4000 {
		x, _ := Item(c, 0, i)
		items = append(items, x)
	}
	m := api.Mark{Told: 7, Items: items}
	s, _ := Put(c, m)
	if got, code := Get(c, s); code != api.OK || !equal(got, m) {
		t.Error(code)
	}
	row, next, code := Next(c, m)
	if code != api.OK || row.Cost != 0 || len(next.Items) != 4000 || next.Told != 8 {
		t.Error(len(next.Items), code)
	}
	x, _ := Item(c, 4999)
	first, _ := Item(c, 0)
	m = api.Mark{Items: append([]api.Item{first}, items[1:]...)}
	m.Items[len(m.Items)-1] = x
	slices.SortFunc(m.Items, heap.Order)
	row, next, code = Next(c, m)
	if code != api.ErrFull || row.Nodes != nil || !equal(next, api.Mark{}) {
		t.Error(len(next.Items), code)
	}
}

func TestAsLongATokenAsMayBe(t *testing.T) {
	// 2731 items of Place 11, twelve of which have 23 bytes, and others 24.
	c := apart(t, 3000, 300, 300, 300, 300, 300, 300, 300, 300, 300, 300, 2)
	begin := append([]int{0}, slices.Repeat([]int{200}, 10)...)
	var m api.Mark
	for x := range 2731 {
		begin[0] = x
		if x >= 12 {
			begin[0] = x + 128
		}
		item, ok := Item(c, 1, begin...)
		if !ok {
			t.Fatal(begin)
		}
		m.Items = append(m.Items, item)
	}
	s, code := Put(c, m)
	if got, getCode := Get(c, s); len(s) != api.MaxToken || code != api.OK || getCode != api.OK || !equal(got, m) {
		t.Error(len(s), code, getCode)
	}
	m.Told = 128
	s, code = Put(c, m)
	if got, getCode := Get(c, s); len(s) != api.MaxToken+1 || code != api.OK || getCode != api.ErrToken || !equal(got, api.Mark{}) {
		t.Error(len(s), code, getCode)
	}
}

func TestNilAndSame(t *testing.T) {
	for _, m := range []api.Mark{{}, {Over: true}} {
		s, code := Put(nil, m)
		_, next, nextCode := Next(nil, m)
		if Good(nil, m) || s != "" || code != api.ErrArg || nextCode != api.ErrToken || !equal(next, api.Mark{}) {
			t.Error(m)
		}
	}
	if m := Start(nil); !m.Over || m.Told != 0 || len(m.Items) != 0 {
		t.Error(m)
	}
	if _, code := Get(nil, "\x02\x00\x00"); code != api.ErrToken {
		t.Error(code)
	}
	a := Start(apart(t, 2))
	b := a
	b.Nodes, b.Rest = []int{5}, 9
	if !Same(a, b) {
		t.Error("more is looked at")
	}
	b.Told = 1
	if Same(a, b) || Same(a, api.Mark{}) || Same(api.Mark{}, api.Mark{Over: true}) {
		t.Error("same")
	}
}
