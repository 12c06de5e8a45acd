package local_test

import (
	"fmt"
	"math"
	"math/big"
	"math/rand"
	"slices"
	"testing"

	"dogwatch/api"
	"dogwatch/local"
	"dogwatch/order"
)

type want = api.Want

// farNumbers are neither a unit, nor a share, nor a frame's ticks.
var farNumbers = []int{math.MinInt, math.MinInt + 1, math.MinInt + 1000, -1 << 40, -1<<32 + 1, -1000, -2, -1, 0, 1<<32 + 2, 1<<40 + 1, math.MaxInt - 1, math.MaxInt}

// wants are those of these units and shares, two by two.
func wants(numbers ...int) []want {
	var l []want
	for i := 0; i < len(numbers); i += 2 {
		l = append(l, want{Unit: numbers[i], Share: numbers[i+1]})
	}
	return l
}

// A model is what a local is held against: the terms, word by word. Its wants rise by their units.
type model struct {
	wants []want
	got   map[int]int
}

// newModel takes wants that may be those of a local.
func newModel(l []want) *model {
	m := &model{got: map[int]int{}}
	for unit := 1; unit <= 1040; unit++ {
		for _, w := range l {
			if w.Unit == unit {
				m.wants = append(m.wants, w)
			}
		}
	}
	return m
}

// errorOf is what P15.1 says of New, word by word.
func errorOf(f int, l []want) api.Errno {
	if e := order.Check(f, l...); e != api.OK {
		return e
	}
	sum := 0
	for _, w := range l {
		sum += w.Share
	}
	if sum > f {
		return api.ErrFull
	}
	return api.OK
}

func (m *model) find(unit int) int {
	for i, w := range m.wants {
		if w.Unit == unit {
			return i
		}
	}
	return -1
}

// value is (got + 1) / Share.
func (m *model) value(w want) *big.Rat {
	return big.NewRat(int64(m.got[w.Unit])+1, int64(w.Share))
}

// next is the unit that no other one precedes, of those that are not in off; 0 if there is none.
func (m *model) next(off []int) int {
	next := 0
	var least *big.Rat
	// From behind, so that of equal values the least unit is found last.
	for i := len(m.wants) - 1; i >= 0; i-- {
		w := m.wants[i]
		away := false
		for _, unit := range off {
			away = away || unit == w.Unit
		}
		if !away && (least == nil || m.value(w).Cmp(least) <= 0) {
			next, least = w.Unit, m.value(w)
		}
	}
	return next
}

func (m *model) pick(off []int) int {
	next := m.next(off)
	if next > 0 {
		m.got[next]++
	}
	return next
}

func (m *model) begin() { clear(m.got) }

func (m *model) drop(unit int) bool {
	at := m.find(unit)
	if at < 0 {
		return false
	}
	m.wants = append(slices.Clone(m.wants[:at]), m.wants[at+1:]...)
	delete(m.got, unit)
	return true
}

func (m *model) total() int {
	sum := 0
	for _, w := range m.wants {
		sum += w.Share
	}
	return sum
}

func (m *model) units() []int {
	var l []int
	for _, w := range m.wants {
		l = append(l, w.Unit)
	}
	return l
}

func TestModel(t *testing.T) {
	m := newModel(wants(2, 3, 1, 2, 1001, 1))
	if !slices.Equal(m.wants, wants(1, 2, 2, 3, 1001, 1)) || m.total() != 6 || !slices.Equal(m.units(), []int{1, 2, 1001}) {
		t.Error(m.wants, m.total(), m.units())
	}
	// 1/2 and 1/3; 1/2 and 2/3; 1 and 2/3; three times 1.
	for i, unit := range []int{2, 1, 2, 1, 2, 1001} {
		if got := m.pick(nil); got != unit {
			t.Error(i, got)
		}
	}
	if m.pick([]int{2, 5, 2}) != 1 || m.got[1] != 3 || m.pick([]int{1001, 1, 2}) != 0 || m.value(want{Unit: 1, Share: 2}).Cmp(big.NewRat(2, 1)) != 0 {
		t.Error(m.got)
	}
	if m.drop(3) || !m.drop(2) || m.drop(2) || m.total() != 3 || !slices.Equal(m.wants, wants(1, 2, 1001, 1)) {
		t.Error(m.wants)
	}
	if m.begin(); len(m.got) != 0 {
		t.Error(m.got)
	}
	if errorOf(5, wants(1, 2, 2, 3)) != api.OK || errorOf(4, wants(1, 2, 2, 3)) != api.ErrFull || errorOf(4, wants(1, 2, 1, 3)) != api.ErrTwice || errorOf(1, nil) != api.ErrArg {
		t.Error("errorOf")
	}
}

// A bench has a local and a model, which are called alike.
type bench struct {
	t *testing.T
	x *local.Local
	m *model
	// calls are for what a test tells.
	calls []string
}

func newBench(t *testing.T, f int, l []want) *bench {
	t.Helper()
	x, e := local.New(f, l...)
	if x == nil || e != api.OK {
		t.Fatalf("New(%d, %v): %v, %d", f, l, x, e)
	}
	b := &bench{t, x, newModel(l), []string{fmt.Sprintf("New(%d, %v)", f, l)}}
	b.check()
	return b
}

func (b *bench) note(format string, args ...any) {
	if len(b.calls) > 60 {
		b.calls = append(b.calls[:1:1], b.calls[31:]...)
	}
	b.calls = append(b.calls, fmt.Sprintf(format, args...))
}

// pick answers who was picked, 0 if nobody was.
func (b *bench) pick(off ...int) int {
	b.t.Helper()
	next := b.m.pick(off)
	b.note("Pick(%v) = %d", off, next)
	if unit, ok := b.x.Pick(off...); unit != next || ok != (next > 0) {
		b.t.Fatalf("Pick: %d, %v; want %d: %v", unit, ok, next, b.calls)
	}
	return next
}

func (b *bench) picks(n int, off ...int) {
	b.t.Helper()
	for range n {
		b.pick(off...)
	}
	b.check()
}

// expect holds picks against those that a test names.
func (b *bench) expect(off []int, units ...int) {
	b.t.Helper()
	for i, unit := range units {
		if got := b.pick(off...); got != unit {
			b.t.Errorf("pick %d of %v: %d: %v", i, units, got, b.calls)
		}
	}
	b.check()
}

func (b *bench) begin() {
	b.t.Helper()
	b.note("Begin()")
	b.m.begin()
	b.x.Begin()
	b.check()
}

func (b *bench) drop(unit int) bool {
	b.t.Helper()
	there := b.m.drop(unit)
	b.note("Drop(%d) = %v", unit, there)
	if got := b.x.Drop(unit); got != there {
		b.t.Fatalf("Drop: %v: %v", got, b.calls)
	}
	b.check()
	return there
}

// checkGot holds Got of a unit that may be there or not.
func (b *bench) checkGot(unit int) {
	b.t.Helper()
	n, there := 0, b.m.find(unit) >= 0
	if there {
		n = b.m.got[unit]
	}
	if got, ok := b.x.Got(unit); got != n || ok != there {
		b.t.Fatalf("Got(%d): %d, %v; want %d, %v: %v", unit, got, ok, n, there, b.calls)
	}
}

// check holds all that can be told without a change.
func (b *bench) check() {
	b.t.Helper()
	if got := b.x.Wants(); !slices.Equal(got, b.m.wants) {
		b.t.Fatalf("Wants: %v; want %v: %v", got, b.m.wants, b.calls)
	}
	if got := b.x.Total(); got != b.m.total() {
		b.t.Fatalf("Total: %d; want %d: %v", got, b.m.total(), b.calls)
	}
	for _, w := range b.m.wants {
		b.checkGot(w.Unit)
		b.checkGot(w.Unit - 1)
		b.checkGot(w.Unit + 1000)
	}
	b.checkGot(200)
	b.checkGot(-1)
}

// got holds what units got against what a test names, two by two.
func (b *bench) got(numbers ...int) {
	b.t.Helper()
	for _, w := range wants(numbers...) {
		if n, ok := b.x.Got(w.Unit); n != w.Share || !ok {
			b.t.Errorf("Got(%d): %d, %v; want %d: %v", w.Unit, n, ok, w.Share, b.calls)
		}
	}
	b.check()
}

func TestExamples(t *testing.T) {
	newBench(t, 3, wants(1, 2, 2, 1)).expect(nil, 1, 1, 2)

	b := newBench(t, 8, wants(2, 3, 1, 2, 1001, 1))
	if n := b.x.Total(); n != 6 {
		t.Error(n)
	}
	b.picks(6)
	b.got(2, 3, 1, 2, 1001, 1)

	checkError(t, 3, wants(2, 2, 1, 2), api.ErrFull)
}

// checkError holds New against an error that a test names, and the model against it too.
func checkError(t *testing.T, f int, l []want, e api.Errno) {
	t.Helper()
	if m := errorOf(f, l); m != e {
		t.Errorf("the model of New(%d, %v): %d; want %d", f, l, m, e)
	}
	x, got := local.New(f, l...)
	if got != e || (x != nil) != (e == api.OK) {
		t.Errorf("New(%d, %v): %v, %d; want %d", f, l, x, got, e)
	}
}

// TestNewFrame holds P15.1's ErrArg, which comes first, and that each frame of 2 to 64 may be.
func TestNewFrame(t *testing.T) {
	bad := [][]want{nil, wants(1, 1), wants(0, 0), wants(1, 0), wants(1, 65), wants(1, 1, 1, 1), wants(1, 60, 2, 60)}
	for _, f := range append(slices.Clone(farNumbers), 1, 65, 66, 128) {
		for _, l := range bad {
			checkError(t, f, l, api.ErrArg)
		}
	}
	for f := 2; f <= 64; f++ {
		checkError(t, f, nil, api.OK)
		checkError(t, f, wants(1, f), api.OK)
		checkError(t, f, wants(1, f+1), api.ErrShare)
		checkError(t, f, wants(1, 1, 200, f-1), api.OK)
		checkError(t, f, wants(1, 1, 200, f), api.ErrFull)
	}
}

// TestNewUnits holds P15.1's ErrID: each unit that there is, and none besides.
func TestNewUnits(t *testing.T) {
	for unit := -5; unit <= 2100; unit++ {
		e := api.ErrID
		if unit >= 1 && unit <= 200 || unit >= 1001 && unit <= 1040 {
			e = api.OK
		}
		checkError(t, 4, wants(unit, 2), e)
	}
	for _, unit := range farNumbers {
		checkError(t, 4, wants(unit, 2), api.ErrID)
		checkError(t, 4, wants(7, 1, unit, 2), api.ErrID)
		// ErrID is ahead of ErrShare, and of ErrTwice.
		checkError(t, 4, wants(unit, 0), api.ErrID)
		checkError(t, 4, wants(unit, math.MaxInt), api.ErrID)
		checkError(t, 4, wants(7, 1, unit, 2, unit, 2), api.ErrID)
	}
}

// TestNewShares holds P15.1's ErrShare, and that it is ahead of ErrTwice in an element.
func TestNewShares(t *testing.T) {
	for _, share := range append(slices.Clone(farNumbers), 9, 10, 64, 65) {
		checkError(t, 8, wants(3, share), api.ErrShare)
		checkError(t, 8, wants(1040, 1, 3, share), api.ErrShare)
		checkError(t, 8, wants(3, 1, 3, share), api.ErrShare)
		checkError(t, 8, wants(3, share, 3, 1), api.ErrShare)
	}
	for share := 1; share <= 8; share++ {
		checkError(t, 8, wants(3, share), api.OK)
	}
}

// TestNewTwice holds P15.1's ErrTwice.
func TestNewTwice(t *testing.T) {
	checkError(t, 8, wants(3, 1, 3, 1), api.ErrTwice)
	checkError(t, 8, wants(3, 1, 3, 2), api.ErrTwice)
	checkError(t, 8, wants(1003, 1, 4, 1, 5, 1, 1003, 1), api.ErrTwice)
	checkError(t, 8, wants(3, 1, 1003, 1), api.OK)
	checkError(t, 8, wants(40, 1, 1040, 1, 200, 1), api.OK)
}

// TestNewFirst holds that the first wrong element tells the error, whatever comes behind it.
func TestNewFirst(t *testing.T) {
	wrong := map[api.Errno][]want{
		api.ErrID:    wants(0, 1),
		api.ErrShare: wants(8, 9),
		api.ErrTwice: wants(9, 1),
	}
	for first, a := range wrong {
		for _, b := range wrong {
			l := append(wants(9, 1), append(slices.Clone(a), b...)...)
			checkError(t, 8, l, first)
			checkError(t, 8, append(l, wants(10, 8, 11, 8)...), first)
		}
	}
}

// TestNewFull holds P15.1's ErrFull: sums of f - 1, f and f + 1, and that it comes behind all that order.Check finds.
func TestNewFull(t *testing.T) {
	for f := 3; f <= 64; f++ {
		for n := 1; n <= min(f-1, 20); n++ {
			var l []want
			for unit := 1; unit < n; unit++ {
				l = append(l, want{Unit: unit, Share: 1})
			}
			rest := f - len(l)
			checkError(t, f, append(slices.Clone(l), want{Unit: 1005, Share: rest - 1}), api.OK)
			checkError(t, f, append(slices.Clone(l), want{Unit: 1005, Share: rest}), api.OK)
			full := api.ErrFull
			if n == 1 {
				full = api.ErrShare
			}
			checkError(t, f, append(slices.Clone(l), want{Unit: 1005, Share: rest + 1}), full)
		}
	}
	full := wants(1, 8, 2, 8, 3, 1)
	checkError(t, 8, full, api.ErrFull)
	checkError(t, 8, append(slices.Clone(full), want{Unit: 0, Share: 1}), api.ErrID)
	checkError(t, 8, append(slices.Clone(full), want{Unit: 4, Share: 0}), api.ErrShare)
	checkError(t, 8, append(slices.Clone(full), want{Unit: 4, Share: 9}), api.ErrShare)
	checkError(t, 8, append(slices.Clone(full), want{Unit: 1, Share: 1}), api.ErrTwice)
	checkError(t, 1, full, api.ErrArg)
	checkError(t, 65, full, api.ErrArg)
}

// everyUnit is a list of all units with a share, in this order.
func everyUnit(share int) []want {
	var l []want
	for unit := 1; unit <= 200; unit++ {
		l = append(l, want{Unit: unit, Share: share})
	}
	for unit := 1001; unit <= 1040; unit++ {
		l = append(l, want{Unit: unit, Share: share})
	}
	return l
}

// TestNewMany holds New of very many wants.
func TestNewMany(t *testing.T) {
	all := everyUnit(1)
	checkError(t, 64, all, api.ErrFull)
	checkError(t, 64, everyUnit(64), api.ErrFull)
	checkError(t, 64, all[:65], api.ErrFull)
	checkError(t, 64, all[:64], api.OK)
	checkError(t, 64, all[176:], api.OK)
	checkError(t, 63, all[176:], api.ErrFull)
	checkError(t, 64, append(slices.Clone(all), want{Unit: 1040, Share: 1}), api.ErrTwice)
	checkError(t, 64, append(slices.Clone(all), want{Unit: 1041, Share: 1}), api.ErrID)
	checkError(t, 64, slices.Repeat(all, 2000), api.ErrTwice)
	b := newBench(t, 64, all[176:])
	b.picks(64)
	b.begin()
	b.picks(65, 200, 1040)
}

// someWants are wants that may be those of a local of a frame.
func someWants(rng *rand.Rand, f, most int) []want {
	var l []want
	rest := f
	all := everyUnit(1)
	for _, at := range rng.Perm(len(all)) {
		if rest == 0 || len(l) >= most {
			break
		}
		w := all[at]
		w.Share = 1 + rng.Intn(min(rest, 1+rng.Intn(rest)))
		rest -= w.Share
		l = append(l, w)
	}
	return l
}

// someList has wants that are right, or wrong in one or two of them.
func someList(rng *rand.Rand, f int) []want {
	l := someWants(rng, f, 1+rng.Intn(12))
	for range rng.Intn(3) {
		w := &l[rng.Intn(len(l))]
		switch rng.Intn(4) {
		case 0:
			w.Unit = []int{-1, 0, 201, 1000, 1041, math.MaxInt}[rng.Intn(6)]
		case 1:
			w.Share = []int{math.MinInt, 0, f, f + 1}[rng.Intn(4)]
		case 2:
			w.Unit = l[rng.Intn(len(l))].Unit
		case 3:
			w.Share++
		}
	}
	return l
}

// TestNewAny holds P15.1 for any lists.
func TestNewAny(t *testing.T) {
	rng := rand.New(rand.NewSource(151))
	seen := map[api.Errno]int{}
	for range 20000 {
		f := rng.Intn(66)
		if f < 2 {
			f = 2 + rng.Intn(5)
		}
		l := someList(rng, min(f, 64))
		e := errorOf(f, l)
		seen[e]++
		checkError(t, f, l, e)
	}
	for _, e := range []api.Errno{api.OK, api.ErrArg, api.ErrID, api.ErrShare, api.ErrTwice, api.ErrFull} {
		if seen[e] < 100 {
			t.Error(e, seen[e])
		}
	}
}

// TestWants holds P15.1's Wants and Total: no wants, one, and many, however they are handed over.
func TestWants(t *testing.T) {
	for f := 2; f <= 64; f += 31 {
		b := newBench(t, f, nil)
		if len(b.x.Wants()) != 0 || b.x.Total() != 0 {
			t.Error(f, b.x.Wants(), b.x.Total())
		}
		b = newBench(t, f, wants(1040, f))
		if !slices.Equal(b.x.Wants(), wants(1040, f)) || b.x.Total() != f {
			t.Error(f, b.x.Wants(), b.x.Total())
		}
	}
	rise := wants(1, 3, 2, 1, 5, 3, 200, 9, 1001, 2, 1040, 1)
	rng := rand.New(rand.NewSource(152))
	for range 100 {
		b := newBench(t, 20, rise)
		if !slices.Equal(b.x.Wants(), rise) || b.x.Total() != 19 {
			t.Error(b.x.Wants(), b.x.Total())
		}
		given := slices.Clone(rise)
		rng.Shuffle(len(given), func(i, j int) { given[i], given[j] = given[j], given[i] })
		other := newBench(t, 20, given)
		if !slices.Equal(other.x.Wants(), rise) || other.x.Total() != 19 {
			t.Error(given, other.x.Wants(), other.x.Total())
		}
		// They are the same local, whatever the order was.
		for range 40 {
			if b.pick() != other.pick() {
				t.Error(given, b.calls)
			}
		}
	}
}

// TestWantsBehind holds that neither picks nor frames change Wants and Total, and that Drop does.
func TestWantsBehind(t *testing.T) {
	b := newBench(t, 12, wants(9, 2, 4, 6, 1009, 1, 3, 3))
	b.picks(7, 4)
	b.begin()
	if !slices.Equal(b.x.Wants(), wants(3, 3, 4, 6, 9, 2, 1009, 1)) || b.x.Total() != 12 {
		t.Error(b.x.Wants(), b.x.Total())
	}
	b.picks(5)
	for i, want := range []struct {
		unit, total int
		wants       []want
	}{
		{4, 6, wants(3, 3, 9, 2, 1009, 1)},
		{1009, 5, wants(3, 3, 9, 2)},
		{3, 2, wants(9, 2)},
		{9, 0, nil},
	} {
		if !b.drop(want.unit) || !slices.Equal(b.x.Wants(), want.wants) || b.x.Total() != want.total {
			t.Error(i, b.x.Wants(), b.x.Total())
		}
	}
}

// TestNobodyMadeIt: each call of a local that is nil, or that New did not make.
func TestNobodyMadeIt(t *testing.T) {
	for _, x := range []*local.Local{nil, {}, new(local.Local)} {
		// Twice, for a call may not make it a local either.
		for range 2 {
			for _, off := range [][]int{nil, {1}, {0, 0}, farNumbers} {
				if unit, ok := x.Pick(off...); unit != 0 || ok {
					t.Error("Pick", off, unit, ok)
				}
			}
			for _, unit := range append(slices.Clone(farNumbers), 1, 200, 1001, 1040) {
				if n, ok := x.Got(unit); n != 0 || ok {
					t.Error("Got", unit, n, ok)
				}
				if x.Drop(unit) {
					t.Error("Drop", unit)
				}
			}
			x.Begin()
			if len(x.Wants()) != 0 || x.Total() != 0 {
				t.Error("Wants, Total", x.Wants(), x.Total())
			}
		}
	}
}

// TestNoUnits: each call of a local without units.
func TestNoUnits(t *testing.T) {
	empty := newBench(t, 5, nil)
	left := newBench(t, 5, wants(3, 2, 1001, 3))
	left.picks(4)
	left.drop(3)
	left.drop(1001)
	for _, b := range []*bench{empty, left} {
		b.expect(nil, 0, 0)
		b.expect([]int{1}, 0)
		b.expect(farNumbers, 0)
		for _, unit := range append(slices.Clone(farNumbers), 1, 3, 200, 1001, 1040) {
			if b.drop(unit) {
				t.Error(unit)
			}
			b.checkGot(unit)
		}
		b.begin()
		b.expect(nil, 0)
	}
}

// TestPickOff holds P15.2 for units in off: none, some, all, such as there are not, and the same ones several times.
func TestPickOff(t *testing.T) {
	b := newBench(t, 8, wants(2, 3, 1, 2, 1001, 1))
	b.expect([]int{2}, 1, 1, 1001, 1)
	b.expect([]int{2, 2, 2}, 1)
	b.got(1, 4, 2, 0, 1001, 1)
	b.expect([]int{1, 2}, 1001)
	b.expect([]int{2, 1}, 1001)
	b.expect([]int{1, 2, 1, 1, 2}, 1001)
	b.expect([]int{1001, 2, 1}, 0, 0)
	b.expect([]int{1, 1001, 1, 2, 2, 1001}, 0)
	b.expect([]int{1, 2, 1001, 55, -1}, 0)
	// Nobody was picked, so nobody got anything.
	b.got(1, 4, 2, 0, 1001, 4)
	b.expect(append(slices.Clone(farNumbers), 3, 200, 1000, 1002, 1040, 2001), 2)
	b.expect(append(slices.Clone(farNumbers), 2, 3, 200), 1)
	b.expect([]int{1<<32 + 2, 1<<40 + 2, math.MinInt + 2}, 2, 2)
	b.expect(nil, 2)
	b.got(1, 5, 2, 4, 1001, 4)
	// A unit with the number of a group is none of the group's.
	one := newBench(t, 8, wants(7, 4, 1007, 4))
	one.expect([]int{7}, 1007)
	one.expect([]int{1007}, 7, 7)
	one.expect([]int{7, 1007}, 0)
	one.drop(7)
	one.expect([]int{7}, 1007)
}

// TestPickBehindOff holds that a unit that was in off catches up before others go on.
func TestPickBehindOff(t *testing.T) {
	b := newBench(t, 8, wants(1, 2, 2, 2, 3, 2))
	b.expect([]int{1}, 2, 3, 2, 3)
	b.expect(nil, 1, 1, 1, 2, 3)
	b.expect([]int{2, 3}, 1, 1, 1)
	b.expect(nil, 2, 3, 2, 3, 2, 3, 1)
}

// TestPickEqual holds that of equal values the least unit is next.
func TestPickEqual(t *testing.T) {
	b := newBench(t, 4, wants(1040, 1, 200, 1, 1001, 1, 1, 1))
	b.expect(nil, 1, 200, 1001, 1040, 1, 200, 1001, 1040)
	b.expect([]int{1}, 200, 1001, 1040)
	b.expect(nil, 1)
	b.expect([]int{200}, 1, 1001)
	// 2/2 and 1/1; 2/4 and 1/2; 4/6, 2/3 and 2/3.
	newBench(t, 3, wants(1, 1, 2, 2)).expect(nil, 2, 1, 2, 2, 1, 2)
	newBench(t, 3, wants(1, 2, 2, 1)).expect(nil, 1, 1, 2, 1, 1, 2)
	newBench(t, 6, wants(5, 2, 4, 4)).expect(nil, 4, 4, 5, 4, 4, 5)
	newBench(t, 6, wants(4, 2, 5, 4)).expect(nil, 5, 4, 5, 5, 4, 5)
	newBench(t, 12, wants(3, 6, 2, 3, 1, 3)).expect(nil, 3, 1, 2, 3, 3, 1, 2, 3, 3, 1, 2, 3)
}

// TestPickNearly holds that values that nearly are equal are told apart, and that none is rounded.
func TestPickNearly(t *testing.T) {
	for a := 1; a <= 63; a++ {
		b := newBench(t, 64, wants(2, a, 1, 64-a))
		for range 200 {
			b.pick()
		}
		b.check()
	}
	// 20/31 is a bit more than 20/32, 21/33 less than 20/31.
	b := newBench(t, 64, wants(1, 31, 2, 33))
	b.picks(19, 2)
	b.picks(20, 1)
	b.expect(nil, 2)
	b.expect(nil, 1)
}

// TestPickShares holds shares of 1 and of f.
func TestPickShares(t *testing.T) {
	for f := 2; f <= 64; f++ {
		b := newBench(t, f, wants(9, f))
		b.expect(nil, slices.Repeat([]int{9}, 2*f)...)
		b.got(9, 2*f)
		b.begin()
		b.got(9, 0)
		b.expect([]int{9}, 0)

		one := newBench(t, f, wants(9, 1))
		one.expect(nil, slices.Repeat([]int{9}, f)...)
		one.got(9, f)

		var l []want
		var units []int
		for unit := 1; unit <= f; unit++ {
			l = append(l, want{Unit: unit, Share: 1})
			units = append(units, unit)
		}
		newBench(t, f, l).expect(nil, append(units, units...)...)
		slices.Reverse(l)
		newBench(t, f, l).expect(nil, append(units, units...)...)

		most := newBench(t, f, wants(1, 1, 2, f-1))
		most.picks(f)
		most.got(1, 1, 2, f-1)
	}
}

// TestGot holds P15.2's Got of units that are there, that are not, and that were dropped.
func TestGot(t *testing.T) {
	b := newBench(t, 8, wants(200, 3, 1, 2, 1040, 1))
	b.got(1, 0, 200, 0, 1040, 0)
	none := append(slices.Clone(farNumbers), 2, 40, 199, 201, 1000, 1001, 1039, 1041, 2001)
	for range 3 {
		for _, unit := range none {
			if n, ok := b.x.Got(unit); n != 0 || ok {
				t.Error(unit, n, ok)
			}
		}
		b.picks(6)
	}
	b.got(1, 6, 200, 9, 1040, 3)
	b.drop(1)
	if n, ok := b.x.Got(1); n != 0 || ok {
		t.Error(n, ok)
	}
	b.got(200, 9, 1040, 3)
	// Got changes nothing.
	for range 5 {
		b.got(200, 9)
	}
	b.expect(nil, 200)
	b.begin()
	if n, ok := b.x.Got(1); n != 0 || ok {
		t.Error(n, ok)
	}
	b.got(200, 0, 1040, 0)
}

// TestGotMuch holds what units got far beyond their shares.
func TestGotMuch(t *testing.T) {
	b := newBench(t, 64, wants(3, 1, 2, 63))
	b.picks(70000, 2)
	b.got(3, 70000, 2, 0)
	b.expect(nil, slices.Repeat([]int{2}, 300)...)
	b.picks(100, 3)
	b.got(3, 70000, 2, 400)
	b.begin()
	b.picks(64)
	b.got(3, 1, 2, 63)

	other := newBench(t, 64, wants(3, 63, 2, 1))
	other.picks(70000, 2)
	other.expect(nil, slices.Repeat([]int{2}, 1111)...)
	// 70001/63 is more than 1111, and 70056/63 is 1112.
	other.expect(nil, slices.Repeat([]int{3}, 55)...)
	other.expect(nil, 2, 3)
}

// TestBegin holds P15.3's Begin: behind some picks, behind none, and several in a row.
func TestBegin(t *testing.T) {
	l := wants(1, 2, 2, 1, 1003, 4)
	for n := range 20 {
		for _, off := range [][]int{nil, {1}, {1003, 2}} {
			b, fresh := newBench(t, 7, l), newBench(t, 7, l)
			b.picks(n, off...)
			for range 1 + n%3 {
				b.begin()
				b.got(1, 0, 2, 0, 1003, 0)
			}
			for range 20 {
				if b.pick() != fresh.pick() {
					t.Error(n, off, b.calls)
				}
			}
		}
	}
	// A frame may end at any time; each one starts alike.
	b := newBench(t, 3, wants(1, 2, 2, 1))
	for range 3 {
		b.expect(nil, 1, 1)
		b.begin()
		b.expect(nil, 1, 1, 2)
		b.begin()
		b.expect([]int{1}, 2)
		b.begin()
	}
}

// TestDrop holds P15.3's Drop.
func TestDrop(t *testing.T) {
	b := newBench(t, 12, wants(4, 4, 2, 2, 1002, 3, 1, 1))
	for _, unit := range append(slices.Clone(farNumbers), 3, 200, 201, 1000, 1001, 1003, 1041) {
		if b.drop(unit) {
			t.Error(unit)
		}
	}
	b.picks(7)
	b.got(4, 3, 1002, 2, 2, 1, 1, 1)
	for i, unit := range []int{2, 1002, 4, 1} {
		if !b.drop(unit) || b.drop(unit) || b.drop(unit) {
			t.Error(i, unit)
		}
		b.picks(3)
		b.picks(2, unit)
	}
	b.expect(nil, 0)
}

// TestDropGot holds that what a dropped unit got is gone, and that the others keep theirs.
func TestDropGot(t *testing.T) {
	for _, gone := range []int{1, 2, 3, 1001} {
		for n := range 15 {
			b := newBench(t, 10, wants(1, 4, 2, 3, 3, 2, 1001, 1))
			b.picks(n)
			others := map[int]int{}
			for _, unit := range []int{1, 2, 3, 1001} {
				others[unit], _ = b.x.Got(unit)
			}
			delete(others, gone)
			if !b.drop(gone) || b.drop(gone) {
				t.Error(gone, n)
			}
			for unit, was := range others {
				b.got(unit, was)
			}
			if got, ok := b.x.Got(gone); got != 0 || ok {
				t.Error(gone, got, ok)
			}
			b.picks(12)
			b.begin()
			b.picks(12)
		}
	}
}

// TestDropBegin holds that a unit that was dropped does not come back with a frame, and that the others then share alike.
func TestDropBegin(t *testing.T) {
	b := newBench(t, 6, wants(1, 2, 2, 3, 3, 1))
	b.picks(4)
	b.drop(2)
	b.begin()
	b.expect(nil, 1, 1, 3, 1, 1, 3)
	b.got(1, 4, 3, 2)
	if b.drop(2) {
		t.Error(b.x.Wants())
	}
	// The local that was made without it does the same.
	fresh := newBench(t, 6, wants(3, 1, 1, 2))
	b.begin()
	for range 20 {
		if b.pick() != fresh.pick() {
			t.Error(b.calls)
		}
	}
}

// someOff are units in off: few or many of those that are there, such as are not, some of them twice.
func someOff(rng *rand.Rand, units []int) []int {
	var off []int
	switch rng.Intn(4) {
	case 0:
		return nil
	case 1:
		off = append(off, units...)
		rng.Shuffle(len(off), func(i, j int) { off[i], off[j] = off[j], off[i] })
		off = off[:rng.Intn(len(off)+1)]
	default:
		for _, unit := range units {
			if rng.Intn(3) == 0 {
				off = append(off, unit)
			}
		}
	}
	for range rng.Intn(3) {
		off = append(off, []int{-1, 0, 1 + rng.Intn(200), 1001 + rng.Intn(40), 1 << 40}[rng.Intn(5)])
	}
	if len(off) > 0 && rng.Intn(3) == 0 {
		off = append(off, off[rng.Intn(len(off))])
	}
	return off
}

// TestAnyCalls holds P15.1 to P15.3 for any calls in any order.
func TestAnyCalls(t *testing.T) {
	rng := rand.New(rand.NewSource(153))
	for range 600 {
		f := 2 + rng.Intn(63)
		b := newBench(t, f, someWants(rng, f, rng.Intn(14)))
		for range 120 {
			switch rng.Intn(24) {
			case 0:
				b.begin()
			case 1:
				b.drop([]int{-1, 0, 1 + rng.Intn(200), 1001 + rng.Intn(40)}[rng.Intn(4)])
			case 2:
				if units := b.m.units(); len(units) > 0 && rng.Intn(3) == 0 {
					b.drop(units[rng.Intn(len(units))])
				}
			default:
				b.pick(someOff(rng, b.m.units())...)
			}
		}
		b.check()
	}
}

// guaranteed holds P15.4 of picks from a Begin on: a unit that was in off for none of as many as all Shares together has got its Share.
func guaranteed(t *testing.T, x *local.Local, picks int, offs func(pick int) []int) {
	t.Helper()
	all, total := x.Wants(), x.Total()
	// free counts for each unit the picks for which it was not in off.
	free := map[int]int{}
	for n := range picks {
		off := offs(n)
		x.Pick(off...)
		for _, w := range all {
			if !slices.Contains(off, w.Unit) {
				free[w.Unit]++
			}
			if got, ok := x.Got(w.Unit); !ok || free[w.Unit] >= total && got < w.Share {
				t.Fatalf("%v of %v got %d, behind %d of %d picks", w, all, got, free[w.Unit], n+1)
			}
		}
	}
}

// TestGuarantee holds P15.4, for picks in which any units are in off, and for such as take ticks away from one unit as far as they can.
func TestGuarantee(t *testing.T) {
	rng := rand.New(rand.NewSource(154))
	for range 800 {
		f := 2 + rng.Intn(63)
		l := someWants(rng, f, 1+rng.Intn(10))
		x, e := local.New(f, l...)
		if e != api.OK {
			t.Fatal(e)
		}
		var units []int
		for _, w := range l {
			units = append(units, w.Unit)
		}
		for range 3 {
			guaranteed(t, x, 2*f, func(int) []int { return someOff(rng, units) })
			x.Begin()
			// The unit that counts is never off; of the others always the same few are on for a while.
			kept := units[rng.Intn(len(units))]
			off := slices.DeleteFunc(someOff(rng, units), func(unit int) bool { return unit == kept })
			guaranteed(t, x, 2*f, func(n int) []int {
				if n%5 == 4 {
					off = slices.DeleteFunc(someOff(rng, units), func(unit int) bool { return unit == kept })
				}
				return off
			})
			x.Begin()
			// Off at the beginning, and then on for all time.
			late := rng.Intn(f)
			guaranteed(t, x, 3*f, func(n int) []int {
				if n < late {
					return []int{kept}
				}
				return nil
			})
			x.Begin()
		}
	}
}

// TestExactness holds P15.5, and P15.6 for any number of picks, in frame behind frame.
func TestExactness(t *testing.T) {
	rng := rand.New(rand.NewSource(155))
	for range 400 {
		f := 2 + rng.Intn(63)
		l := someWants(rng, f, 1+rng.Intn(20))
		x, e := local.New(f, l...)
		if e != api.OK {
			t.Fatal(e)
		}
		for range 2 {
			for n := 1; n <= 4*f; n++ {
				// A unit in off that is not there puts nobody off.
				x.Pick([]int{-1, 0, 999, 5000}[:n%4]...)
				proportional(t, x, n)
				exact(t, x, n)
			}
			x.Begin()
		}
	}
}

// exact holds P15.5 behind exactly as many picks as all Shares together; it is so behind each further round too.
func exact(t *testing.T, x *local.Local, n int) {
	t.Helper()
	if n%x.Total() != 0 {
		return
	}
	for _, w := range x.Wants() {
		if got, ok := x.Got(w.Unit); got != n/x.Total()*w.Share || !ok {
			t.Fatalf("%v of %v got %d behind %d picks", w, x.Wants(), got, n)
		}
	}
}

// proportional holds P15.6 behind n picks.
func proportional(t *testing.T, x *local.Local, n int) {
	t.Helper()
	all, total := x.Wants(), x.Total()
	sum := 0
	for _, w := range all {
		got, _ := x.Got(w.Unit)
		sum += got
		if apart := got*total - w.Share*n; max(apart, -apart) > (len(all)-1)*total {
			t.Fatalf("%v of %v got %d behind %d picks", w, all, got, n)
		}
	}
	if sum != n {
		t.Fatalf("all got %d behind %d picks of %v", sum, n, all)
	}
}

// TestExactBehindDrop holds P15.5 and P15.6 for the units that are left, from a Begin on.
func TestExactBehindDrop(t *testing.T) {
	rng := rand.New(rand.NewSource(156))
	for range 200 {
		f := 4 + rng.Intn(61)
		l := someWants(rng, f, 8)
		b := newBench(t, f, l)
		for len(b.m.wants) > 1 {
			b.picks(rng.Intn(20), someOff(rng, b.m.units())...)
			b.drop(b.m.units()[rng.Intn(len(b.m.wants))])
			b.begin()
			for n := 1; n <= 2*b.x.Total(); n++ {
				b.pick()
				proportional(t, b.x, n)
				exact(t, b.x, n)
			}
			b.begin()
		}
	}
}

// withSpare is a list with memory behind its end.
func withSpare[T any](spare T, l ...T) []T {
	return append(slices.Clone(l), spare, spare, spare)[: len(l) : len(l)+3]
}

// TestArguments holds that no argument is changed, nor kept.
func TestArguments(t *testing.T) {
	l := withSpare(want{Unit: 77, Share: 77}, wants(9, 2, 1001, 3, 4, 1)...)
	was := slices.Clone(l[:cap(l)])
	b := newBench(t, 8, l)
	if !slices.Equal(l[:cap(l)], was) {
		t.Error(l[:cap(l)])
	}
	for i := range l[:cap(l)] {
		l[:cap(l)][i] = want{Unit: 5, Share: 64}
	}
	b.check()
	b.picks(9)

	off := withSpare(66, 1001, 9, 9, 3)
	wasOff := slices.Clone(off[:cap(off)])
	b.pick(off...)
	if !slices.Equal(off[:cap(off)], wasOff) {
		t.Error(off[:cap(off)])
	}
	for i := range off[:cap(off)] {
		off[:cap(off)][i] = 4
	}
	b.picks(9)

	// A list that New refuses stays as well.
	bad := withSpare(want{Unit: 77, Share: 77}, wants(9, 5, 3, 5)...)
	was = slices.Clone(bad[:cap(bad)])
	checkError(t, 8, bad, api.ErrFull)
	if !slices.Equal(bad[:cap(bad)], was) {
		t.Error(bad[:cap(bad)])
	}
}

// TestResults holds that Wants is memory of its own.
func TestResults(t *testing.T) {
	b := newBench(t, 8, wants(9, 2, 1001, 3, 4, 1))
	first, second := b.x.Wants(), b.x.Wants()
	spoil := func(l []want) {
		for i := range l[:cap(l)] {
			l[:cap(l)][i] = want{Unit: 5, Share: 64}
		}
	}
	spoil(first)
	if !slices.Equal(second, wants(4, 1, 9, 2, 1001, 3)) {
		t.Error(second)
	}
	b.check()
	b.picks(5)
	b.drop(9)
	if !slices.Equal(second, wants(4, 1, 9, 2, 1001, 3)) {
		t.Error(second)
	}
	spoil(b.x.Wants())
	b.check()
	b.picks(5)
	// What is appended to a result is none of the local's either.
	_ = append(b.x.Wants(), want{Unit: 6, Share: 6})
	b.check()
}

// TestSeparate holds that locals share nothing, even when they are made of the same list.
func TestSeparate(t *testing.T) {
	l := wants(9, 2, 1001, 3, 4, 1)
	a, b := newBench(t, 8, l), newBench(t, 8, l)
	a.picks(5)
	b.check()
	b.drop(9)
	a.check()
	a.begin()
	b.picks(4)
	a.check()
	for range 30 {
		a.pick()
		b.pick(4)
	}
	a.check()
	b.check()
}
