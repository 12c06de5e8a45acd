package heap_test

import (
	"math"
	"math/big"
	"math/rand"
	"slices"
	"testing"

	"dogwatch/api"
	"dogwatch/heap"
)

const top = math.MaxUint64

type fraction struct{ num, den uint64 }

// compare holds two fractions against each other by products of any length.
func (f fraction) compare(g fraction) int {
	left := new(big.Int).SetUint64(f.num)
	right := new(big.Int).SetUint64(g.num)
	left.Mul(left, new(big.Int).SetUint64(g.den))
	right.Mul(right, new(big.Int).SetUint64(f.den))
	return left.Cmp(right)
}

// A model is what a heap is held against: its size, and the keys by ids.
type model struct {
	n    int
	keys map[int]fraction
}

func newModel(n int) *model { return &model{n, map[int]fraction{}} }

func (m *model) put(id int, f fraction) api.Errno {
	if id < 0 || id >= m.n || f.den == 0 {
		return api.ErrArg
	}
	m.keys[id] = f
	return api.OK
}

func (m *model) remove(id int) bool {
	_, ok := m.keys[id]
	delete(m.keys, id)
	return ok
}

// order is all ids with a key, each ahead of those that it precedes.
func (m *model) order() []int {
	var ids []int
	for id := range m.n {
		if _, ok := m.keys[id]; ok {
			ids = append(ids, id)
		}
	}
	// The ids rise, and stable keeps equal fractions so.
	slices.SortStableFunc(ids, func(a, b int) int { return m.keys[a].compare(m.keys[b]) })
	return ids
}

func (m *model) min() (int, bool) {
	first, found := 0, false
	for id := range m.n {
		if f, ok := m.keys[id]; ok && (!found || f.compare(m.keys[first]) < 0) {
			first, found = id, true
		}
	}
	return first, found
}

func (m *model) pop() (int, bool) {
	id, ok := m.min()
	if ok {
		delete(m.keys, id)
	}
	return id, ok
}

func TestModel(t *testing.T) {
	m := newModel(4)
	if id, ok := m.min(); id != 0 || ok || m.order() != nil || m.remove(3) {
		t.Error("empty")
	}
	if m.put(4, fraction{1, 1}) != api.ErrArg || m.put(0, fraction{1, 0}) != api.ErrArg || m.put(-1, fraction{1, 1}) != api.ErrArg {
		t.Error("arguments")
	}
	m.put(3, fraction{1, 2})
	m.put(1, fraction{2, 4})
	m.put(2, fraction{3, 4})
	if !slices.Equal(m.order(), []int{1, 3, 2}) {
		t.Error(m.order())
	}
	m.put(1, fraction{9, 1})
	for _, want := range []int{3, 2, 1} {
		if id, ok := m.pop(); id != want || !ok {
			t.Error(id, want)
		}
	}
	if (fraction{top - 1, top}).compare(fraction{top - 2, top - 1}) != 1 || (fraction{0, 1}).compare(fraction{0, top}) != 0 {
		t.Error("compare")
	}
}

func newHeap(t *testing.T, n int) *heap.Heap {
	t.Helper()
	h, e := heap.New(n)
	if h == nil || e != api.OK {
		t.Fatalf("New(%d): %v, %d", n, h, e)
	}
	return h
}

// put puts what is right to put.
func put(t *testing.T, h *heap.Heap, id int, num, den uint64) {
	t.Helper()
	if e := h.Put(id, num, den); e != api.OK {
		t.Errorf("Put(%d, %d, %d): %d", id, num, den, e)
	}
}

func checkMin(t *testing.T, h *heap.Heap, id int, ok bool) {
	t.Helper()
	if gotID, gotOK := h.Min(); gotID != id || gotOK != ok {
		t.Errorf("Min: %d, %v; want %d, %v", gotID, gotOK, id, ok)
	}
}

func checkKey(t *testing.T, h *heap.Heap, id int, f fraction, ok bool) {
	t.Helper()
	if num, den, gotOK := h.Key(id); num != f.num || den != f.den || gotOK != ok {
		t.Errorf("Key(%d): %d, %d, %v; want %v, %v", id, num, den, gotOK, f, ok)
	}
}

// checkPops takes all there is from a heap: these ids, in this order, and no more.
func checkPops(t *testing.T, h *heap.Heap, ids ...int) {
	t.Helper()
	if h.Len() != len(ids) {
		t.Errorf("Len: %d; want %d", h.Len(), len(ids))
	}
	for i, want := range ids {
		if id, ok := h.Min(); id != want || !ok {
			t.Fatalf("Min %d of %v: %d, %v", i, ids, id, ok)
		}
		if id, ok := h.Pop(); id != want || !ok {
			t.Fatalf("Pop %d of %v: %d, %v", i, ids, id, ok)
		}
		if num, den, ok := h.Key(want); num != 0 || den != 0 || ok {
			t.Fatalf("Key(%d) after Pop: %d, %d, %v", want, num, den, ok)
		}
		if h.Len() != len(ids)-i-1 {
			t.Fatalf("Len after Pop %d of %v: %d", i, ids, h.Len())
		}
	}
	for range 2 {
		if id, ok := h.Pop(); id != 0 || ok {
			t.Fatalf("Pop behind %v: %d, %v", ids, id, ok)
		}
	}
	checkMin(t, h, 0, false)
	if h.Len() != 0 {
		t.Errorf("Len of an empty heap: %d", h.Len())
	}
}

// check holds all that a heap tells against the model; it changes neither.
func check(t *testing.T, h *heap.Heap, m *model) {
	t.Helper()
	id, ok := m.min()
	checkMin(t, h, id, ok)
	if h.Len() != len(m.keys) {
		t.Errorf("Len: %d; want %d", h.Len(), len(m.keys))
	}
	for id := -2; id < m.n+2; id++ {
		f, ok := m.keys[id]
		checkKey(t, h, id, f, ok)
	}
}

// both does the same to a heap and to the model.
type both struct {
	t *testing.T
	h *heap.Heap
	m *model
}

func newBoth(t *testing.T, n int) both {
	t.Helper()
	return both{t, newHeap(t, n), newModel(n)}
}

func (b both) put(id int, f fraction) {
	b.t.Helper()
	if got, want := b.h.Put(id, f.num, f.den), b.m.put(id, f); got != want {
		b.t.Errorf("Put(%d, %v): %d; want %d", id, f, got, want)
	}
}

func (b both) remove(id int) {
	b.t.Helper()
	if got, want := b.h.Remove(id), b.m.remove(id); got != want {
		b.t.Errorf("Remove(%d): %v; want %v", id, got, want)
	}
}

func (b both) pop() {
	b.t.Helper()
	id, ok := b.h.Pop()
	if wantID, wantOK := b.m.pop(); id != wantID || ok != wantOK {
		b.t.Errorf("Pop: %d, %v; want %d, %v", id, ok, wantID, wantOK)
	}
}

func (b both) check() {
	b.t.Helper()
	check(b.t, b.h, b.m)
}

// finish holds the order of all pops against the model's.
func (b both) finish() {
	b.t.Helper()
	b.check()
	checkPops(b.t, b.h, b.m.order()...)
}

func TestNew(t *testing.T) {
	for _, n := range []int{math.MinInt, -1024, -1, 0, 1025, 1026, 2048, 1 << 20, 1 << 32, math.MaxInt} {
		if h, e := heap.New(n); h != nil || e != api.ErrArg {
			t.Errorf("New(%d): %v, %d; want nil, ErrArg", n, h, e)
		}
	}
	for _, n := range []int{1, 2, 3, 4, 63, 64, 1000, 1023, 1024} {
		b := newBoth(t, n)
		b.check()
		for _, id := range []int{math.MinInt, -1, 0, n - 1, n, math.MaxInt} {
			b.remove(id)
		}
		b.finish()
		// The ids reach from 0 to n - 1.
		b.put(n, fraction{1, 1})
		b.put(-1, fraction{1, 1})
		b.check()
		b.put(n-1, fraction{2, 1})
		b.put(0, fraction{3, 1})
		b.finish()
	}
}

func TestExample(t *testing.T) {
	h := newHeap(t, 4)
	if h.Put(4, 1, 1) != api.ErrArg || h.Put(0, 1, 0) != api.ErrArg {
		t.Error("want ErrArg")
	}
	put(t, h, 3, 1, 2)
	put(t, h, 1, 2, 4)
	put(t, h, 2, 3, 4)
	checkMin(t, h, 1, true)
	put(t, h, 1, 9, 1)
	checkPops(t, h, 3, 2, 1)
}

// TestWrongPut: nothing changes, whether the id has a key or not.
func TestWrongPut(t *testing.T) {
	const n = 5
	for _, full := range []bool{false, true} {
		b := newBoth(t, n)
		for id := range n {
			if full || id%2 == 1 {
				b.put(id, fraction{uint64(10 - id), 3})
			}
		}
		for _, num := range []uint64{0, 1, 7, top} {
			for _, id := range []int{math.MinInt, -n, -2, -1, n, n + 1, 1024, math.MaxInt} {
				for _, den := range []uint64{0, 1, 2, top} {
					if e := b.h.Put(id, num, den); e != api.ErrArg {
						t.Errorf("Put(%d, %d, %d): %d", id, num, den, e)
					}
				}
			}
			for id := range n {
				if e := b.h.Put(id, num, 0); e != api.ErrArg {
					t.Errorf("Put(%d, %d, 0): %d", id, num, e)
				}
			}
		}
		b.finish()
	}
}

// TestPutAgain: an id's new key takes the place of the old one, from anywhere to anywhere.
func TestPutAgain(t *testing.T) {
	const n = 7
	news := []fraction{{0, 9}, {1, 100}, {3, 2}, {7, 2}, {7, 1}, {14, 2}, {100, 1}, {top, 1}}
	for id := range n {
		for _, f := range news {
			b := newBoth(t, n)
			for other := range n {
				b.put(other, fraction{uint64(other*3%n) + 1, 1})
			}
			b.put(id, f)
			b.finish()
		}
		for numerator := range uint64(n + 2) {
			b := newBoth(t, n)
			for other := range n {
				b.put(other, fraction{uint64(other*5%n) * 2, 2})
			}
			b.put(id, fraction{numerator * 3, 3})
			b.finish()
		}
	}
}

// TestPutEqual: equal in other words changes what Key tells, and no order.
func TestPutEqual(t *testing.T) {
	h := newHeap(t, 3)
	put(t, h, 2, 1, 2)
	put(t, h, 0, 2, 4)
	put(t, h, 1, 3, 6)
	checkMin(t, h, 0, true)
	put(t, h, 1, 1<<63-1, top-1)
	put(t, h, 0, 500, 1000)
	checkMin(t, h, 0, true)
	checkKey(t, h, 0, fraction{500, 1000}, true)
	checkKey(t, h, 1, fraction{1<<63 - 1, top - 1}, true)
	checkKey(t, h, 2, fraction{1, 2}, true)
	// The same key again, to the letter.
	put(t, h, 2, 1, 2)
	if h.Len() != 3 {
		t.Errorf("Len: %d", h.Len())
	}
	checkPops(t, h, 0, 1, 2)
}

// TestEqualFractions: the less id precedes, whatever the terms and whatever the order in which they came.
func TestEqualFractions(t *testing.T) {
	for _, list := range [][]fraction{
		{{1, 2}, {2, 4}, {3, 6}, {4, 8}, {1 << 62, 1 << 63}},
		{{0, 1}, {0, 2}, {0, top}, {0, 1 << 63}, {0, 7}},
		{{1, 1}, {top, top}, {2, 2}, {1 << 63, 1 << 63}, {top - 1, top - 1}},
		{{top, 1}, {top, 1}, {top, 1}, {top, 1}, {top, 1}},
		{{1, top}, {1, top}, {1, top}, {1, top}, {1, top}},
		{{3, 1}, {top, top / 3}, {6, 2}, {9, 3}, {3 << 60, 1 << 60}},
	} {
		for _, ids := range orders(len(list)) {
			h := newHeap(t, len(list))
			for i, id := range ids {
				put(t, h, id, list[i].num, list[i].den)
			}
			for i, id := range ids {
				checkKey(t, h, id, list[i], true)
			}
			checkPops(t, h, 0, 1, 2, 3, 4)
		}
	}
}

// TestGreatTerms has fractions in rising order that products of one word, quotients and floats would not tell apart or would turn round.
func TestGreatTerms(t *testing.T) {
	rising := []fraction{
		{0, top},
		{1, top},
		{1, top - 1},
		{2, top},
		{1, 1 << 33},
		{1<<31 - 1, 1 << 32},
		{1 << 31, 1<<32 - 1},
		{top - 2, top - 1},
		{top - 1, top},
		{top, top},
		{top, top - 1},
		{top - 1, top - 2},
		{1 << 33, 1 << 32},
		{1 << 33, 1<<32 - 1},
		{1 << 32, 1},
		{1<<32 + 1, 1},
		{1 << 63, 1},
		{top - 1, 1},
		{top, 1},
	}
	last := len(rising) - 1
	for i := range rising[:last] {
		if rising[i].compare(rising[i+1]) >= 0 {
			t.Errorf("%v is not less than %v", rising[i], rising[i+1])
		}
	}
	// The ids fall while the fractions rise, so that none precedes by its id.
	var want []int
	for i := range rising {
		want = append(want, last-i)
	}
	up, down := newHeap(t, len(rising)), newHeap(t, len(rising))
	for i := range rising {
		put(t, up, last-i, rising[i].num, rising[i].den)
		put(t, down, i, rising[last-i].num, rising[last-i].den)
	}
	for i, f := range rising {
		checkKey(t, up, last-i, f, true)
		checkKey(t, down, last-i, f, true)
	}
	checkPops(t, up, want...)
	checkPops(t, down, want...)
	for i, f := range rising {
		for j, g := range rising {
			h := newHeap(t, 2)
			put(t, h, 0, f.num, f.den)
			put(t, h, 1, g.num, g.den)
			if i <= j {
				checkPops(t, h, 0, 1)
			} else {
				checkPops(t, h, 1, 0)
			}
		}
	}
}

func TestKey(t *testing.T) {
	h := newHeap(t, 6)
	for id, f := range []fraction{{6, 4}, {0, 8}, {top, top}, {top, 1}, {1, top}} {
		put(t, h, id, f.num, f.den)
		checkKey(t, h, id, f, true)
	}
	checkKey(t, h, 0, fraction{6, 4}, true)
	for _, id := range []int{math.MinInt, -1, 5, 6, 1024, math.MaxInt} {
		checkKey(t, h, id, fraction{}, false)
	}
	// An id with the key 0 has one all the same.
	checkMin(t, h, 1, true)
	if !h.Remove(1) {
		t.Error("Remove(1)")
	}
	checkKey(t, h, 1, fraction{}, false)
	checkKey(t, h, 0, fraction{6, 4}, true)
	put(t, h, 1, 9, 3)
	checkKey(t, h, 1, fraction{9, 3}, true)
	checkPops(t, h, 4, 2, 0, 1, 3)
}

func TestRemove(t *testing.T) {
	h := newHeap(t, 5)
	for _, id := range []int{math.MinInt, -1, 0, 4, 5, math.MaxInt} {
		if h.Remove(id) {
			t.Errorf("Remove(%d) of an empty heap", id)
		}
	}
	// The only one.
	put(t, h, 3, 1, 1)
	if h.Remove(2) || h.Remove(-1) || h.Remove(5) || h.Len() != 1 {
		t.Error("one that has no key")
	}
	if !h.Remove(3) || h.Remove(3) {
		t.Error("the only one")
	}
	checkPops(t, h)
	// The first, the last, and one between.
	for id := range 5 {
		put(t, h, id, uint64(id), 1)
	}
	if !h.Remove(0) {
		t.Error("the first")
	}
	checkMin(t, h, 1, true)
	if !h.Remove(4) || !h.Remove(2) || h.Remove(0) || h.Remove(4) || h.Remove(2) {
		t.Error("the last and one between")
	}
	// One that is back is there once.
	put(t, h, 4, 2, 1)
	put(t, h, 0, 9, 1)
	checkPops(t, h, 1, 4, 3, 0)
}

func TestMinAndPop(t *testing.T) {
	h := newHeap(t, 3)
	checkPops(t, h)
	put(t, h, 2, 5, 1)
	checkMin(t, h, 2, true)
	// Min leaves all as it is.
	checkMin(t, h, 2, true)
	put(t, h, 0, 6, 1)
	checkMin(t, h, 2, true)
	put(t, h, 1, 4, 1)
	checkMin(t, h, 1, true)
	if id, ok := h.Pop(); id != 1 || !ok || h.Len() != 2 {
		t.Error("Pop", id, ok)
	}
	if h.Remove(1) {
		t.Error("a popped id has a key")
	}
	if !h.Remove(2) {
		t.Error("Remove(2)")
	}
	checkMin(t, h, 0, true)
	checkPops(t, h, 0)
	// 0 as an id is told with true, 0 as nothing with false.
	put(t, h, 0, 0, 1)
	checkMin(t, h, 0, true)
	checkPops(t, h, 0)
}

// TestSizeOne: a heap whose only id comes and goes.
func TestSizeOne(t *testing.T) {
	b := newBoth(t, 1)
	for i := range uint64(4) {
		b.put(0, fraction{i, 3})
		b.put(1, fraction{i, 3})
		b.check()
		b.put(0, fraction{9 - i, 2})
		b.check()
		if i%2 == 0 {
			b.remove(0)
		} else {
			b.pop()
		}
		b.check()
	}
	b.finish()
}

// TestFull fills the greatest heap, in several orders.
func TestFull(t *testing.T) {
	const n = 1024
	for _, step := range []int{1, 3, 511, n - 1} {
		b := newBoth(t, n)
		for i := range n {
			id := i * step % n
			b.put(id, fraction{uint64(i % 100), uint64(i%7) + 1})
		}
		b.put(n, fraction{0, 1})
		b.check()
		for id := 0; id < n; id += 5 {
			b.put(id, fraction{uint64(id%13) << 59, uint64(id)<<40 + 1})
		}
		b.finish()
	}
}

// nobodies are heaps that are nil or were not created by New.
func nobodies() map[string]*heap.Heap {
	failed, _ := heap.New(0)
	var declared heap.Heap
	return map[string]*heap.Heap{"nil": nil, "failed": failed, "zero": {}, "new": new(heap.Heap), "declared": &declared}
}

// TestNobody holds what such a heap tells: nothing, twice, for a call may not change it either.
func TestNobody(t *testing.T) {
	for name, h := range nobodies() {
		t.Run(name, func(t *testing.T) {
			for range 2 {
				for _, id := range []int{math.MinInt, -1, 0, 1, 1023, 1024, math.MaxInt} {
					for _, f := range []fraction{{0, 0}, {1, 0}, {0, 1}, {1, 2}, {top, top}} {
						if e := h.Put(id, f.num, f.den); e != api.ErrNil {
							t.Errorf("Put(%d, %v): %d; want ErrNil", id, f, e)
						}
					}
					if h.Remove(id) {
						t.Errorf("Remove(%d)", id)
					}
					checkKey(t, h, id, fraction{}, false)
				}
				checkPops(t, h)
			}
		})
	}
}

// TestApart: two heaps share nothing.
func TestApart(t *testing.T) {
	a, b := newBoth(t, 4), newBoth(t, 4)
	a.put(1, fraction{1, 2})
	b.put(2, fraction{1, 3})
	a.put(3, fraction{1, 4})
	b.put(1, fraction{1, 5})
	a.check()
	b.check()
	a.remove(1)
	b.check()
	b.pop()
	a.check()
	b.finish()
	a.finish()
}

// orders are all orders of the numbers from 0 to n - 1.
func orders(n int) [][]int {
	if n == 0 {
		return [][]int{nil}
	}
	var all [][]int
	for _, shorter := range orders(n - 1) {
		for i := range n {
			all = append(all, slices.Insert(slices.Clone(shorter), i, n-1))
		}
	}
	return all
}

func TestOrders(t *testing.T) {
	if l := orders(3); len(l) != 6 || !slices.Equal(l[0], []int{2, 1, 0}) || !slices.Equal(l[5], []int{0, 1, 2}) {
		t.Error(l)
	}
}

// TestEachOrder puts a few keys in each order, then takes one away or puts it anywhere else, and holds what is popped against the model.
// What stands wrong at the end of a heap may come right by the next pop, so it is held once more with others behind it.
func TestEachOrder(t *testing.T) {
	const n = 6
	for _, ids := range orders(n) {
		fill := func() both {
			b := newBoth(t, n+2)
			for id, num := range ids {
				b.put(id, fraction{uint64(num), 1})
			}
			return b
		}
		finish := func(b both, more bool) {
			if more {
				b.put(n, fraction{n, 1})
				b.put(n+1, fraction{n + 1, 1})
			}
			b.finish()
		}
		for _, more := range []bool{false, true} {
			finish(fill(), more)
			for one := range n {
				b := fill()
				b.remove(one)
				finish(b, more)
				for place := range uint64(2 * n) {
					b := fill()
					// Equal to one of the others, or between two.
					b.put(one, fraction{place, 2})
					finish(b, more)
				}
			}
		}
	}
}

// TestEachRow does each row of a few calls on a small heap.
func TestEachRow(t *testing.T) {
	const n, length = 3, 4
	var calls []func(b both)
	for id := range n {
		for _, f := range []fraction{{0, 1}, {1, 2}, {2, 4}, {1, 1}} {
			calls = append(calls, func(b both) { b.put(id, f) })
		}
		calls = append(calls, func(b both) { b.remove(id) })
	}
	calls = append(calls, both.pop)
	all := 1
	for range length {
		all *= len(calls)
	}
	for row := range all {
		b := newBoth(t, n)
		rest := row
		for range length {
			calls[rest%len(calls)](b)
			rest /= len(calls)
		}
		b.finish()
		if t.Failed() {
			t.Fatalf("row %d", row)
		}
	}
}

// someWord has any number of bits, so that small and great ones come alike.
func someWord(r *rand.Rand) uint64 { return r.Uint64() >> uint(r.Intn(64)) }

// someFraction is small, great, equal to others in other words, or, seldom, none.
func someFraction(r *rand.Rand) fraction {
	switch r.Intn(5) {
	case 0:
		return fraction{someWord(r), someWord(r)}
	case 1:
		return fraction{top - uint64(r.Intn(3)), top - uint64(r.Intn(3))}
	case 2:
		k := someWord(r)>>8 | 1
		return fraction{uint64(r.Intn(4)) * k, uint64(1+r.Intn(4)) * k}
	}
	return fraction{uint64(r.Intn(6)), uint64(r.Intn(40) / 5)}
}

// TestAnyCalls holds P6.3: whatever came before, all pops come in order, each id once.
func TestAnyCalls(t *testing.T) {
	r := rand.New(rand.NewSource(6))
	for round := range 1500 {
		n := 1 + r.Intn(40)
		if round%100 == 0 {
			n = 1024
		}
		b := newBoth(t, n)
		// Some rounds fill the heap, some keep it all but empty.
		puts := 3 + r.Intn(7)
		for range r.Intn(6 * min(n, 100)) {
			id := r.Intn(n+2) - 1
			switch c := r.Intn(10); {
			case c < puts:
				b.put(id, someFraction(r))
			case c == 9:
				b.pop()
			default:
				b.remove(id)
			}
			wantID, wantOK := b.m.min()
			checkMin(t, b.h, wantID, wantOK)
		}
		b.finish()
		if t.Failed() {
			t.Fatalf("round %d of size %d", round, n)
		}
	}
}
