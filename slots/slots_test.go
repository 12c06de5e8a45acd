package slots_test

import (
	"fmt"
	"math"
	"math/rand"
	"slices"
	"testing"

	"dogwatch/api"
	"dogwatch/slots"
)

// farIDs and farGens are no slot of any table, and no generation that a test comes to.
var (
	farIDs  = []int{math.MinInt, -1024, -2, -1, 0, 1025, 1 << 32, 1<<32 + 1, math.MaxInt}
	farGens = []int{math.MinInt, -2, -1, 0, 1 << 32, 1<<32 + 1, math.MaxInt}
)

// A place is a slot of the model; freed is when it became free, 0 if it has never been in use.
type place[T comparable] struct {
	x     T
	gen   int
	inUse bool
	freed int
}

// A model is what a table is held against: all slots, the id's at id - 1, and a count of all that became free.
type model[T comparable] struct {
	places []place[T]
	drops  int
}

func newModel[T comparable](n int) *model[T] {
	m := &model[T]{places: make([]place[T], n)}
	for i := range m.places {
		m.places[i].gen = 1
	}
	return m
}

// next is the id that Take gives, 0 if there is none.
func (m *model[T]) next() int {
	latest, least := 0, 0
	for i, p := range m.places {
		if p.inUse {
			continue
		}
		if p.freed > 0 && (latest == 0 || p.freed > m.places[latest-1].freed) {
			latest = i + 1
		}
		if least == 0 {
			least = i + 1
		}
	}
	if latest > 0 {
		return latest
	}
	return least
}

func (m *model[T]) take(x T) (id, gen int, e api.Errno) {
	id = m.next()
	if id == 0 {
		return 0, 0, api.ErrTable
	}
	p := &m.places[id-1]
	p.x, p.inUse = x, true
	return id, p.gen, api.OK
}

// find is the slot of an id that is in use, or nil.
func (m *model[T]) find(id int) *place[T] {
	if id < 1 || id > len(m.places) || !m.places[id-1].inUse {
		return nil
	}
	return &m.places[id-1]
}

func (m *model[T]) set(id int, x T) api.Errno {
	p := m.find(id)
	if p == nil {
		return api.ErrNone
	}
	p.x = x
	return api.OK
}

func (m *model[T]) drop(id, gen int) api.Errno {
	p := m.find(id)
	if p == nil || p.gen != gen {
		return api.ErrNone
	}
	m.drops++
	p.inUse, p.freed = false, m.drops
	p.gen++
	return api.OK
}

func (m *model[T]) ids() []int {
	var ids []int
	for i, p := range m.places {
		if p.inUse {
			ids = append(ids, i+1)
		}
	}
	return ids
}

func TestModel(t *testing.T) {
	m := newModel[int](3)
	for want := 1; want <= 3; want++ {
		if id, gen, e := m.take(want * 10); id != want || gen != 1 || e != api.OK {
			t.Error(id, gen, e)
		}
	}
	if _, _, e := m.take(40); e != api.ErrTable {
		t.Error("full", e)
	}
	if m.drop(3, 2) != api.ErrNone || m.drop(4, 1) != api.ErrNone || m.drop(3, 1) != api.OK || m.drop(3, 1) != api.ErrNone || m.drop(3, 2) != api.ErrNone || m.drop(1, 1) != api.OK {
		t.Error("drop")
	}
	if m.set(1, 5) != api.ErrNone || m.set(2, 5) != api.OK || m.find(2).x != 5 || m.find(0) != nil || !slices.Equal(m.ids(), []int{2}) {
		t.Error("set")
	}
	for _, want := range []int{1, 3} {
		if id, gen, e := m.take(9); id != want || gen != 2 || e != api.OK {
			t.Error(id, gen, e)
		}
	}
}

func newTable[T any](t *testing.T, n int) *slots.Table[T] {
	t.Helper()
	s, e := slots.New[T](n)
	if s == nil || e != api.OK {
		t.Fatalf("New(%d): %v, %d", n, s, e)
	}
	return s
}

func take[T any](t *testing.T, s *slots.Table[T], x T, id, gen int) {
	t.Helper()
	if gotID, gotGen, e := s.Take(x); gotID != id || gotGen != gen || e != api.OK {
		t.Errorf("Take(%v): %d, %d, %d; want %d, %d, OK", x, gotID, gotGen, e, id, gen)
	}
}

func drop[T any](t *testing.T, s *slots.Table[T], id, gen int, want api.Errno) {
	t.Helper()
	if e := s.Drop(id, gen); e != want {
		t.Errorf("Drop(%d, %d): %d; want %d", id, gen, e, want)
	}
}

// checkFull: Take has no slot, twice, for a refused call may not change anything.
func checkFull[T any](t *testing.T, s *slots.Table[T], x T) {
	t.Helper()
	for range 2 {
		if id, gen, e := s.Take(x); id != 0 || gen != 0 || e != api.ErrTable {
			t.Errorf("Take of a full table: %d, %d, %d; want ErrTable", id, gen, e)
		}
	}
}

func checkGet[T comparable](t *testing.T, s *slots.Table[T], id, gen int, x T, ok bool) {
	t.Helper()
	if gotX, gotOK := s.Get(id, gen); gotX != x || gotOK != ok {
		t.Errorf("Get(%d, %d): %v, %v; want %v, %v", id, gen, gotX, gotOK, x, ok)
	}
}

func checkFind[T comparable](t *testing.T, s *slots.Table[T], id int, x T, gen int, ok bool) {
	t.Helper()
	if gotX, gotGen, gotOK := s.Find(id); gotX != x || gotGen != gen || gotOK != ok {
		t.Errorf("Find(%d): %v, %d, %v; want %v, %d, %v", id, gotX, gotGen, gotOK, x, gen, ok)
	}
}

// checkIDs holds IDs, and Len along with it.
func checkIDs[T any](t *testing.T, s *slots.Table[T], ids ...int) {
	t.Helper()
	if got := s.IDs(); !slices.Equal(got, ids) {
		t.Errorf("IDs: %v; want %v", got, ids)
	}
	if s.Len() != len(ids) {
		t.Errorf("Len: %d; want %d", s.Len(), len(ids))
	}
}

// checkNone: there is nothing in the slot of an id, whatever the generation.
func checkNone[T comparable](t *testing.T, s *slots.Table[T], id int, gens ...int) {
	t.Helper()
	var none T
	checkFind(t, s, id, none, 0, false)
	for _, gen := range append(gens, farGens...) {
		checkGet(t, s, id, gen, none, false)
	}
}

// both does the same to a table and to the model.
type both[T comparable] struct {
	t *testing.T
	s *slots.Table[T]
	m *model[T]
}

func newBoth[T comparable](t *testing.T, n int) both[T] {
	t.Helper()
	return both[T]{t, newTable[T](t, n), newModel[T](n)}
}

func (b both[T]) take(x T) (int, int) {
	b.t.Helper()
	id, gen, e := b.s.Take(x)
	wantID, wantGen, want := b.m.take(x)
	if id != wantID || gen != wantGen || e != want {
		b.t.Errorf("Take(%v): %d, %d, %d; want %d, %d, %d", x, id, gen, e, wantID, wantGen, want)
	}
	return wantID, wantGen
}

func (b both[T]) set(id int, x T) {
	b.t.Helper()
	if got, want := b.s.Set(id, x), b.m.set(id, x); got != want {
		b.t.Errorf("Set(%d, %v): %d; want %d", id, x, got, want)
	}
}

func (b both[T]) drop(id, gen int) {
	b.t.Helper()
	if got, want := b.s.Drop(id, gen), b.m.drop(id, gen); got != want {
		b.t.Errorf("Drop(%d, %d): %d; want %d", id, gen, got, want)
	}
}

// dropNow drops what is in a slot, and nothing if it is free.
func (b both[T]) dropNow(id int) {
	b.t.Helper()
	gen := 1
	if p := b.m.find(id); p != nil {
		gen = p.gen
	}
	b.drop(id, gen)
}

// check holds all that a table tells against the model; it changes neither.
func (b both[T]) check() {
	b.t.Helper()
	checkIDs(b.t, b.s, b.m.ids()...)
	for _, id := range farIDs {
		checkNone(b.t, b.s, id, 1)
	}
	for i, p := range b.m.places {
		id := i + 1
		if !p.inUse {
			checkNone(b.t, b.s, id, p.gen-1, p.gen, p.gen+1)
			continue
		}
		var none T
		checkFind(b.t, b.s, id, p.x, p.gen, true)
		checkGet(b.t, b.s, id, p.gen, p.x, true)
		for _, gen := range append([]int{p.gen - 1, p.gen + 1}, farGens...) {
			checkGet(b.t, b.s, id, gen, none, false)
		}
	}
	checkNone(b.t, b.s, len(b.m.places)+1, 1, 2)
}

// finish fills the table, which shows in which order the slots are given, and holds that it is full then.
func (b both[T]) finish(x T) {
	b.t.Helper()
	b.check()
	for b.m.next() > 0 {
		b.take(x)
	}
	b.take(x)
	b.check()
}

func TestNew(t *testing.T) { // P7.1
	for _, n := range []int{math.MinInt, -1024, -1, 0, 1025, 1026, 2048, 1 << 20, 1 << 32, 1<<32 + 1, math.MaxInt} {
		if s, e := slots.New[int](n); s != nil || e != api.ErrArg {
			t.Errorf("New(%d): %v, %d; want nil, ErrArg", n, s, e)
		}
	}
	for _, n := range []int{1, 2, 3, 4, 63, 64, 65, 1000, 1023, 1024} {
		s := newTable[int](t, n)
		checkIDs(t, s)
		for _, id := range append([]int{1, n, n + 1}, farIDs...) {
			checkNone(t, s, id, 1, 2)
			drop(t, s, id, 1, api.ErrNone)
			if e := s.Set(id, 7); e != api.ErrNone {
				t.Errorf("Set(%d) of an empty table: %d", id, e)
			}
		}
		checkIDs(t, s)
		// The ids reach from 1 to n, from the least on, and their generations are 1.
		var ids []int
		for id := 1; id <= n; id++ {
			take(t, s, id*10, id, 1)
			ids = append(ids, id)
		}
		checkFull(t, s, 7)
		checkIDs(t, s, ids...)
		for id := 1; id <= n; id++ {
			checkGet(t, s, id, 1, id*10, true)
		}
		checkNone(t, s, 0, 1)
		checkNone(t, s, n+1, 1)
	}
}

func TestExample(t *testing.T) {
	s := newTable[string](t, 3)
	take(t, s, "a", 1, 1)
	take(t, s, "b", 2, 1)
	drop(t, s, 1, 2, api.ErrNone)
	drop(t, s, 1, 1, api.OK)
	drop(t, s, 2, 1, api.OK)
	take(t, s, "c", 2, 2)
	take(t, s, "d", 1, 2)
	take(t, s, "e", 3, 1)
	checkFull(t, s, "f")
	for id, x := range []string{"d", "c", "e"} {
		checkFind(t, s, id+1, x, []int{2, 2, 1}[id], true)
	}
}

// TestTakeFull: a full table refuses, takes again as soon as one slot is free, and refuses again.
func TestTakeFull(t *testing.T) { // P7.1, P7.5
	for _, n := range []int{1, 2, 5, 1024} {
		b := newBoth[int](t, n)
		for i := range n {
			b.take(i)
		}
		checkFull(t, b.s, -1)
		b.check()
		for _, id := range []int{1, n, (n + 1) / 2} {
			b.dropNow(id)
			b.take(100 + id)
			checkFull(t, b.s, -1)
			b.check()
		}
	}
}

// TestTakeOrder frees slots in each order, of tables some of whose slots have never been in use: the latest that became free comes first, then the least of the others.
func TestTakeOrder(t *testing.T) { // P7.1
	const n = 7
	for used := 1; used <= 5; used++ {
		for _, ids := range orders(used) {
			for count := range used + 1 {
				s := newTable[string](t, n)
				for id := 1; id <= used; id++ {
					take(t, s, "old", id, 1)
				}
				for _, i := range ids[:count] {
					drop(t, s, i+1, 1, api.OK)
				}
				for _, i := range slices.Backward(ids[:count]) {
					take(t, s, "new", i+1, 2)
				}
				for id := used + 1; id <= n; id++ {
					take(t, s, "first", id, 1)
				}
				checkFull(t, s, "none")
			}
		}
	}
}

// TestTakeBetween: what was freed before stays behind what is freed later, also where slots are taken in between.
func TestTakeBetween(t *testing.T) { // P7.1
	s := newTable[int](t, 6)
	for id := 1; id <= 4; id++ {
		take(t, s, id, id, 1)
	}
	drop(t, s, 2, 1, api.OK)
	drop(t, s, 4, 1, api.OK)
	drop(t, s, 1, 1, api.OK)
	take(t, s, 5, 1, 2)
	drop(t, s, 3, 1, api.OK)
	take(t, s, 6, 3, 2)
	// Refused, so 2 does not become free again.
	drop(t, s, 2, 1, api.ErrNone)
	drop(t, s, 1, 2, api.OK)
	take(t, s, 7, 1, 3)
	take(t, s, 8, 4, 2)
	take(t, s, 9, 2, 2)
	take(t, s, 10, 5, 1)
	drop(t, s, 2, 2, api.OK)
	take(t, s, 11, 2, 3)
	take(t, s, 12, 6, 1)
	checkFull(t, s, 13)
	for i, x := range []int{7, 11, 6, 8, 10, 12} {
		checkFind(t, s, i+1, x, []int{3, 3, 2, 2, 1, 1}[i], true)
	}
}

// TestGenerations: a slot's generation grows by one each time it becomes free, and by nothing else.
func TestGenerations(t *testing.T) { // P7.1, P7.2
	s := newTable[int](t, 3)
	take(t, s, -1, 1, 1)
	for gen := 1; gen <= 5000; gen++ {
		take(t, s, gen, 2, gen)
		checkFind(t, s, 2, gen, gen, true)
		checkGet(t, s, 2, gen, gen, true)
		checkGet(t, s, 2, gen-1, 0, false)
		checkGet(t, s, 2, gen+1, 0, false)
		drop(t, s, 2, gen-1, api.ErrNone)
		drop(t, s, 2, gen+1, api.ErrNone)
		if e := s.Set(2, gen*2); e != api.OK {
			t.Errorf("Set: %d", e)
		}
		checkFind(t, s, 2, gen*2, gen, true)
		drop(t, s, 2, gen, api.OK)
		checkNone(t, s, 2, gen-1, gen, gen+1)
	}
	// The others keep theirs.
	checkFind(t, s, 1, -1, 1, true)
	take(t, s, 7, 2, 5001)
	take(t, s, 8, 3, 1)
}

// filled is a table of size 5: 1 is free, with the generation 3; 2 is in use, with 1; 3 with 2; 4 and 5 have never been.
func filled(t *testing.T) *slots.Table[string] {
	t.Helper()
	s := newTable[string](t, 5)
	take(t, s, "a", 1, 1)
	take(t, s, "b", 2, 1)
	take(t, s, "c", 3, 1)
	drop(t, s, 3, 1, api.OK)
	drop(t, s, 1, 1, api.OK)
	take(t, s, "d", 1, 2)
	take(t, s, "e", 3, 2)
	drop(t, s, 1, 2, api.OK)
	return s
}

// checkFilled holds that a table is as filled made it.
func checkFilled(t *testing.T, s *slots.Table[string]) {
	t.Helper()
	checkIDs(t, s, 2, 3)
	checkFind(t, s, 2, "b", 1, true)
	checkFind(t, s, 3, "e", 2, true)
	take(t, s, "v", 1, 3)
	take(t, s, "w", 4, 1)
	take(t, s, "x", 5, 1)
	checkFull(t, s, "y")
}

func TestGet(t *testing.T) { // P7.2
	s := filled(t)
	checkGet(t, s, 2, 1, "b", true)
	checkGet(t, s, 3, 2, "e", true)
	for id := 1; id <= 6; id++ {
		for _, gen := range append([]int{1, 2, 3, 4}, farGens...) {
			if id == 2 && gen == 1 || id == 3 && gen == 2 {
				continue
			}
			checkGet(t, s, id, gen, "", false)
		}
	}
	for _, id := range append([]int{6, 7}, farIDs...) {
		checkNone(t, s, id, 1, 2, 3)
	}
	// To ask leaves all as it is.
	checkGet(t, s, 2, 1, "b", true)
	checkFilled(t, s)
}

func TestFind(t *testing.T) { // P7.2
	s := filled(t)
	for range 2 {
		checkFind(t, s, 2, "b", 1, true)
		checkFind(t, s, 3, "e", 2, true)
		for _, id := range append([]int{1, 4, 5, 6, 7}, farIDs...) {
			checkFind(t, s, id, "", 0, false)
		}
	}
	checkFilled(t, s)
}

func TestSet(t *testing.T) { // P7.2
	s := filled(t)
	for _, id := range append([]int{1, 4, 5, 6, 7}, farIDs...) {
		if e := s.Set(id, "x"); e != api.ErrNone {
			t.Errorf("Set(%d): %d; want ErrNone", id, e)
		}
		checkNone(t, s, id, 1, 2, 3)
	}
	checkFilled(t, s)
	s = filled(t)
	for id, x := range map[int]string{2: "p", 3: "q"} {
		if e := s.Set(id, x); e != api.OK {
			t.Errorf("Set(%d): %d", id, e)
		}
	}
	// The generations stay.
	checkFind(t, s, 2, "p", 1, true)
	checkFind(t, s, 3, "q", 2, true)
	checkGet(t, s, 2, 1, "p", true)
	checkGet(t, s, 3, 2, "q", true)
	if e := s.Set(3, ""); e != api.OK {
		t.Errorf("Set of a zero value: %d", e)
	}
	checkFind(t, s, 3, "", 2, true)
	checkGet(t, s, 3, 2, "", true)
	s.Set(2, "b")
	s.Set(3, "e")
	checkFilled(t, s)
}

func TestDrop(t *testing.T) { // P7.2
	s := filled(t)
	for _, id := range append([]int{1, 4, 5, 6, 7}, farIDs...) {
		for _, gen := range append([]int{1, 2, 3, 4}, farGens...) {
			drop(t, s, id, gen, api.ErrNone)
		}
	}
	for _, gen := range append([]int{2, 3}, farGens...) {
		drop(t, s, 2, gen, api.ErrNone)
	}
	for _, gen := range append([]int{1, 3}, farGens...) {
		drop(t, s, 3, gen, api.ErrNone)
	}
	checkFilled(t, s)
	s = filled(t)
	drop(t, s, 2, 1, api.OK)
	checkIDs(t, s, 3)
	// Neither the generation that it had nor the one that it has now: it is free.
	for range 2 {
		drop(t, s, 2, 1, api.ErrNone)
		drop(t, s, 2, 2, api.ErrNone)
	}
	checkNone(t, s, 2, 1, 2)
	drop(t, s, 3, 2, api.OK)
	drop(t, s, 3, 2, api.ErrNone)
	checkIDs(t, s)
	take(t, s, "r", 3, 3)
	take(t, s, "s", 2, 2)
	take(t, s, "t", 1, 3)
	checkIDs(t, s, 1, 2, 3)
}

func TestIDsAndLen(t *testing.T) { // P7.3
	const n = 5
	for _, taken := range orders(n) {
		b := newBoth[int](t, n+1)
		for range n {
			b.take(1)
		}
		for i, at := range taken {
			b.dropNow(at + 1)
			checkIDs(t, b.s, b.m.ids()...)
			if i == 1 || i == 3 {
				b.take(2)
				checkIDs(t, b.s, b.m.ids()...)
			}
		}
		b.finish(3)
		if t.Failed() {
			t.Fatal(taken)
		}
	}
}

// TestIDsNew: what IDs tells may be changed, to the end of its capacity, and the table does not notice.
func TestIDsNew(t *testing.T) { // P7.3
	s := filled(t)
	ids, other := s.IDs(), s.IDs()
	for i := range ids[:cap(ids)] {
		ids[:cap(ids)][i] = 4
	}
	if !slices.Equal(other, []int{2, 3}) {
		t.Errorf("two answers share: %v", other)
	}
	checkFilled(t, s)
	checkIDs(t, s, 1, 2, 3, 4, 5)
	if !slices.Equal(other, []int{2, 3}) {
		t.Errorf("an answer changed: %v", other)
	}
}

type pair struct {
	name string
	n    int
}

// holdType goes through all calls with contents of one type; x is its zero value or not, y is another one.
func holdType[T comparable](t *testing.T, x, y T) {
	t.Helper()
	t.Run(fmt.Sprintf("%T %v %v", x, x, y), func(t *testing.T) {
		b := newBoth[T](t, 4)
		b.take(x)
		b.take(y)
		b.take(x)
		b.check()
		b.set(1, y)
		b.set(2, x)
		b.set(4, x)
		b.check()
		b.drop(2, 1)
		b.drop(2, 1)
		b.check()
		b.drop(1, 1)
		b.take(x)
		b.set(1, x)
		b.check()
		b.finish(y)
	})
}

func TestContents(t *testing.T) {
	one := 1
	holdType(t, 0, 5)
	holdType(t, 5, 0)
	holdType(t, "", "text")
	holdType(t, "text", "")
	holdType(t, false, true)
	holdType(t, true, false)
	holdType(t, uint8(0), uint8(255))
	holdType(t, 0.5, math.Inf(1))
	holdType(t, api.OK, api.ErrTable)
	holdType(t, pair{}, pair{"a", 1})
	holdType(t, pair{"a", 1}, pair{"a", 2})
	holdType(t, [3]int{}, [3]int{0, 0, 1})
	holdType(t, struct{}{}, struct{}{})
	holdType(t, nil, &one)
	holdType(t, &one, new(int))
	holdType(t, api.Want{}, api.Want{Unit: 1001, Share: 3})
	holdType[any](t, nil, 1)
	holdType[any](t, 1, "1")
	holdType[error](t, nil, fmt.Errorf("e"))
}

// TestContentsApart: contents that can't be compared, and the contents of one slot ahead of and behind others.
func TestContentsApart(t *testing.T) {
	s := newTable[[]int](t, 2)
	take(t, s, []int{1, 2}, 1, 1)
	take(t, s, nil, 2, 1)
	if x, ok := s.Get(1, 1); !slices.Equal(x, []int{1, 2}) || !ok {
		t.Error(x, ok)
	}
	if x, gen, ok := s.Find(2); x != nil || gen != 1 || !ok {
		t.Error(x, gen, ok)
	}
	if e := s.Set(2, []int{3}); e != api.OK {
		t.Error(e)
	}
	drop(t, s, 1, 1, api.OK)
	if x, ok := s.Get(1, 1); x != nil || ok {
		t.Error(x, ok)
	}
	if x, ok := s.Get(2, 1); !slices.Equal(x, []int{3}) || !ok {
		t.Error(x, ok)
	}
	calls := newTable[func() int](t, 2)
	take(t, calls, func() int { return 7 }, 1, 1)
	if x, ok := calls.Get(1, 1); !ok || x == nil || x() != 7 {
		t.Error(ok)
	}
	if x, ok := calls.Get(1, 2); ok || x != nil {
		t.Error(ok)
	}
	maps := newTable[map[string]int](t, 1)
	take(t, maps, map[string]int{"a": 1}, 1, 1)
	if x, _, ok := maps.Find(1); !ok || x["a"] != 1 {
		t.Error(x, ok)
	}
	checkFull(t, maps, nil)
	inner := newTable[*slots.Table[[]int]](t, 1)
	take(t, inner, s, 1, 1)
	if x, ok := inner.Get(1, 1); !ok || x != s {
		t.Error(ok)
	}
}

// holdNobody holds what a table tells that nobody made: nothing, twice, for a call may not change it either.
func holdNobody[T comparable](t *testing.T, x T) {
	t.Helper()
	failed, _ := slots.New[T](0)
	var declared slots.Table[T]
	nobodies := map[string]*slots.Table[T]{"nil": nil, "failed": failed, "zero": {}, "new": new(slots.Table[T]), "declared": &declared}
	for name, s := range nobodies {
		t.Run(fmt.Sprintf("%T %s", x, name), func(t *testing.T) {
			for range 2 {
				if id, gen, e := s.Take(x); id != 0 || gen != 0 || e != api.ErrNil {
					t.Errorf("Take: %d, %d, %d; want ErrNil", id, gen, e)
				}
				// With ids that are wrong as well, ErrNil comes first.
				for _, id := range append([]int{1, 2, 1024}, farIDs...) {
					if e := s.Set(id, x); e != api.ErrNil {
						t.Errorf("Set(%d): %d; want ErrNil", id, e)
					}
					for _, gen := range append([]int{1, 2}, farGens...) {
						drop(t, s, id, gen, api.ErrNil)
					}
					checkNone(t, s, id, 1, 2)
				}
				checkIDs(t, s)
			}
		})
	}
}

func TestNobody(t *testing.T) { // P7.1 to P7.3
	holdNobody(t, 5)
	holdNobody(t, "text")
	holdNobody(t, pair{"a", 1})
	holdNobody(t, new(int))
	holdNobody[any](t, 1)
}

// TestApart: two tables share nothing.
func TestApart(t *testing.T) {
	a, b := newBoth[int](t, 4), newBoth[int](t, 4)
	a.take(1)
	b.take(2)
	a.take(3)
	a.check()
	b.check()
	a.drop(1, 1)
	b.check()
	b.take(4)
	b.drop(2, 1)
	a.check()
	a.set(2, 9)
	b.finish(5)
	a.finish(6)
	b.check()
}

// orders are all orders of the numbers from 0 to n - 1.
func orders(n int) [][]int {
	if n == 0 {
		return [][]int{nil}
	}
	var all [][]int
	for _, shorter := range orders(n - 1) {
		for i := range n {
			all = append(all, slices.Insert(slices.Clone(shorter), i, n-1))
		}
	}
	return all
}

func TestOrders(t *testing.T) {
	if l := orders(3); len(l) != 6 || !slices.Equal(l[0], []int{2, 1, 0}) || !slices.Equal(l[5], []int{0, 1, 2}) {
		t.Error(l)
	}
}

// TestEachRow does each row of a few calls on small tables, and holds after each call that all is as the model has it.
func TestEachRow(t *testing.T) { // P7.1 to P7.5
	const most, length = 3, 6
	for n := 1; n <= most; n++ {
		calls := []func(b both[int], x int){func(b both[int], x int) { b.take(x) }}
		for id := 1; id <= n; id++ {
			calls = append(calls, func(b both[int], _ int) { b.dropNow(id) })
		}
		calls = append(calls, func(b both[int], x int) { b.set(n, x) })
		all := 1
		for range length {
			all *= len(calls)
		}
		for row := range all {
			b := newBoth[int](t, n)
			rest := row
			for at := range length {
				calls[rest%len(calls)](b, 10+at)
				rest /= len(calls)
				checkIDs(t, b.s, b.m.ids()...)
			}
			b.finish(99)
			if t.Failed() {
				t.Fatalf("row %d of size %d", row, n)
			}
		}
	}
}

// stored is an id together with its generation.
type stored struct{ id, gen int }

// TestNoConfusion holds P7.4 without the model: all that was ever stored is asked for after any calls, and what is told is what was stored last under that id and generation, or nothing, once it was dropped.
func TestNoConfusion(t *testing.T) {
	r := rand.New(rand.NewSource(74))
	for round := range 300 {
		n := 1 + r.Intn(12)
		s := newTable[int](t, n)
		last := map[stored]int{}
		gone := map[stored]bool{}
		count := 0
		for at := range 120 {
			x := round*1000 + at + 1
			id := r.Intn(n+2) - 1 + r.Intn(2)
			switch r.Intn(4) {
			case 0, 1:
				id, gen, e := s.Take(x)
				if (e == api.OK) != (count < n) || e != api.OK && e != api.ErrTable {
					t.Fatalf("Take of %d in %d: %d", count, n, e)
				}
				if e != api.OK {
					break
				}
				key := stored{id, gen}
				if _, was := last[key]; was {
					t.Fatalf("%v was given before", key)
				}
				last[key] = x
				count++
			case 2:
				_, gen, found := s.Find(id)
				if e := s.Set(id, x); (e == api.OK) != found {
					t.Fatalf("Set(%d): %d", id, e)
				}
				if found {
					last[stored{id, gen}] = x
				}
			case 3:
				key := stored{id, 1 + r.Intn(4)}
				_, was := last[key]
				if e := s.Drop(key.id, key.gen); (e == api.OK) != (was && !gone[key]) {
					t.Fatalf("Drop%v: %d", key, e)
				} else if e == api.OK {
					gone[key] = true
					count--
				}
			}
			for key, x := range last {
				got, ok := s.Get(key.id, key.gen)
				if gone[key] && (got != 0 || ok) || !gone[key] && (got != x || !ok) {
					t.Fatalf("Get%v: %d, %v; stored %d, gone %v", key, got, ok, x, gone[key])
				}
				if _, ok := last[stored{key.id, key.gen + 1}]; !ok {
					checkGet(t, s, key.id, key.gen+1, 0, false)
				}
			}
		}
	}
}

// TestCompleteness holds P7.5: after any calls a table accepts as many as it lacks of n, and no more.
func TestCompleteness(t *testing.T) {
	r := rand.New(rand.NewSource(75))
	for round := range 300 {
		n := 1 + r.Intn(30)
		if round%50 == 0 {
			n = 1024
		}
		s := newTable[string](t, n)
		gens := map[int]int{}
		for range r.Intn(8 * min(n, 200)) {
			if r.Intn(5) < 3 {
				if id, gen, e := s.Take("x"); e == api.OK {
					gens[id] = gen
				}
				continue
			}
			id := 1 + r.Intn(n)
			if s.Drop(id, gens[id]) == api.OK {
				delete(gens, id)
			}
		}
		if s.Len() != len(gens) {
			t.Fatalf("Len: %d; want %d", s.Len(), len(gens))
		}
		for count := len(gens); count < n; count++ {
			id, gen, e := s.Take("y")
			if _, was := gens[id]; e != api.OK || id < 1 || id > n || was {
				t.Fatalf("Take with %d of %d: %d, %d, %d", count, n, id, gen, e)
			}
			gens[id] = gen
		}
		checkFull(t, s, "z")
		if s.Len() != n || len(gens) != n {
			t.Fatalf("Len: %d of %d", s.Len(), n)
		}
	}
}

// TestAnyCalls holds all that a table tells against the model, after any calls.
func TestAnyCalls(t *testing.T) { // P7.1 to P7.5
	r := rand.New(rand.NewSource(7))
	for round := range 600 {
		n := 1 + r.Intn(40)
		if round%100 == 0 {
			n = 1024
		}
		b := newBoth[int](t, n)
		// Some rounds fill the table, some keep it all but empty.
		takes := 2 + r.Intn(7)
		for at := range r.Intn(6 * min(n, 200)) {
			id := r.Intn(n+2) - r.Intn(2)
			switch c := r.Intn(10); {
			case c < takes:
				b.take(at)
			case c == 9:
				b.set(id, -at)
			case c == 8:
				b.drop(id, r.Intn(4))
			default:
				b.dropNow(id)
			}
			if len(b.m.ids()) != b.s.Len() {
				t.Fatalf("round %d of size %d: Len %d; want %d", round, n, b.s.Len(), len(b.m.ids()))
			}
		}
		b.finish(-1)
		if t.Failed() {
			t.Fatalf("round %d of size %d", round, n)
		}
	}
}
