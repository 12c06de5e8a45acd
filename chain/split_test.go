package chain_test

import (
	"cmp"
	"math"
	"math/bits"
	"math/rand"
	"slices"
	"testing"

	"dogwatch/api"
	"dogwatch/chain"
	"dogwatch/order"
	"dogwatch/plan"
)

func compareUnits(a, b place) int { return cmp.Compare(a.Unit, b.Unit) }

func has(p api.Plan, unit int) bool {
	return slices.ContainsFunc(p.Places, func(x place) bool { return x.Unit == unit })
}

func sumOf(l []want) int {
	sum := 0
	for _, w := range l {
		sum += w.Share
	}
	return sum
}

// splitOf is the model of Split for wants that may be placed: split units get their ticks one by one.
func splitOf(p api.Plan, l []want) api.Plan {
	p = deep(p)
	core, tick := 0, 0
	for _, w := range l {
		for roomOf(p, core) == 0 {
			core++
		}
		x := whole(w.Unit, w.Share, core)
		if roomOf(p, core) < w.Share {
			var own [16]uint64
			for range w.Share {
				for bits.OnesCount64(own[core]) == roomOf(p, core) {
					core++
				}
				own[core] |= 1 << tick
				tick++
				if tick == p.Frame {
					tick = 0
				}
			}
			x = split(w.Unit, w.Share, piecesOf(own)...)
		}
		p.Places = append(p.Places, x)
	}
	slices.SortFunc(p.Places, compareUnits)
	return p
}

// errorOf is the error of Split by the document's words.
func errorOf(p api.Plan, l []want) api.Errno {
	if plan.Check(p) != api.OK {
		return api.ErrPlan
	}
	if e := order.Check(p.Frame, l...); e != api.OK {
		return e
	}
	for _, w := range l {
		if has(p, w.Unit) {
			return api.ErrTwice
		}
	}
	for _, x := range p.Places {
		if len(x.Pieces) > 0 {
			return api.ErrState
		}
	}
	if sumOf(l) > freeOf(p) {
		return api.ErrFull
	}
	return api.OK
}

// checkSplit holds P19.2 for any plan and wants, and the properties of what it comes to.
func checkSplit(t *testing.T, p api.Plan, l []want) api.Plan {
	t.Helper()
	before, wants := deep(p), slices.Clone(l)
	got, e := chain.Split(p, l...)
	if !samePlan(p, before) || !slices.Equal(l, wants) {
		t.Errorf("Split(%v, %v) left %v, %v", before, wants, p, l)
	}
	if wrong := errorOf(p, l); wrong != api.OK {
		if e != wrong || !samePlan(got, api.Plan{}) {
			t.Errorf("Split(%v, %v): %v, %d; want nothing, %d", p, l, got, e, wrong)
		}
		return got
	}
	if right := splitOf(p, l); e != api.OK || !samePlan(got, right) {
		t.Errorf("Split(%v, %v): %v, %d; want %v", p, l, got, e, right)
	}
	checkAll(t, p, got, l)
	checkStable(t, p, got)
	checkFull(t, got)
	return got
}

// checkAll holds P19.3: all that was wanted is placed, and the plan is valid, with few split units.
func checkAll(t *testing.T, p, got api.Plan, l []want) {
	t.Helper()
	if plan.Check(got) != api.OK || len(got.Places) != len(p.Places)+len(l) {
		t.Errorf("%v with %v became %v", p, l, got)
	}
	splits, cores := 0, 0
	for _, x := range got.Places {
		splits += min(len(x.Pieces), 1)
	}
	for core := range 16 {
		cores += int(got.Cores >> core % 2)
	}
	if splits >= cores || freeOf(got) != freeOf(p)-sumOf(l) {
		t.Errorf("%v with %v became %v", p, l, got)
	}
	for _, w := range l {
		if !slices.ContainsFunc(got.Places, func(x place) bool { return x.Unit == w.Unit && x.Share == w.Share }) {
			t.Errorf("%v is not in %v", w, got)
		}
	}
}

// checkStable holds the first half of P19.4: all places that were there are there as they were.
func checkStable(t *testing.T, p, got api.Plan) {
	t.Helper()
	rest := deep(got)
	rest.Places = slices.DeleteFunc(rest.Places, func(x place) bool { return !has(p, x.Unit) })
	if !samePlan(rest, p) {
		t.Errorf("%v became %v", p, got)
	}
}

// checkFull holds the second half of P19.4: a core has no room if a split unit has a piece there and one on a higher core.
func checkFull(t *testing.T, got api.Plan) {
	t.Helper()
	for _, x := range got.Places {
		for i, y := range x.Pieces {
			if i+1 < len(x.Pieces) && roomOf(got, y.Core) != 0 {
				t.Errorf("core %d has room, though %v goes on: %v", y.Core, x, got)
			}
		}
	}
}

// splitIs holds Split, and the model too, against the places that a test names besides those of the plan.
func splitIs(t *testing.T, p api.Plan, l []want, placed ...place) api.Plan {
	t.Helper()
	if e := errorOf(p, l); e != api.OK {
		t.Fatalf("%v, %v: %d", p, l, e)
	}
	got := checkSplit(t, p, l)
	right := planOf(p.Frame, p.Cores, slices.Concat(p.Places, placed)...)
	slices.SortFunc(right.Places, compareUnits)
	if !samePlan(got, right) {
		t.Errorf("Split(%v, %v): %v; want %v", p, l, got, right)
	}
	return got
}

// fails holds Split, and the model too, against an error that a test names.
func fails(t *testing.T, e api.Errno, p api.Plan, l ...want) {
	t.Helper()
	if wrong := errorOf(p, l); wrong != e {
		t.Errorf("the model of %v, %v: %d; want %d", p, l, wrong, e)
	}
	if got, wrong := chain.Split(p, l...); wrong != e || !samePlan(got, api.Plan{}) {
		t.Errorf("Split(%v, %v): %v, %d; want nothing, %d", p, l, got, wrong, e)
	}
	checkSplit(t, p, l)
}

// shares are wants of these shares, of the units from 1 on, and of the groups' where the tasks do not suffice.
func shares(l ...int) []want {
	var wants []want
	for i, share := range l {
		unit := i + 1
		if unit > 200 {
			unit += 800
		}
		wants = append(wants, wantOf(unit, share))
	}
	return wants
}

// TestSplitNone holds P19.2 for no wants: the plan is as it was.
func TestSplitNone(t *testing.T) {
	full := planOf(4, 3, whole(1, 4, 0), whole(2, 1, 1), whole(1001, 3, 1))
	for _, p := range []api.Plan{planOf(2, 1), planOf(64, 0xffff), planOf(8, 1<<15), full, left(9, map[int]int{0: 0, 3: 4, 7: 9})} {
		splitIs(t, p, nil)
		splitIs(t, p, []want{})
	}
}

// TestSplitRoom holds P19.2 for a Share that is just the room of the current core, one less, and one more.
func TestSplitRoom(t *testing.T) {
	p := left(8, map[int]int{0: 5, 1: 3, 2: 8})
	splitIs(t, p, shares(4), whole(1, 4, 0))
	splitIs(t, p, shares(5), whole(1, 5, 0))
	splitIs(t, p, shares(6), split(1, 6, at(0, 0, 1, 2, 3, 4), at(1, 5)))
	// The room that a whole unit has left, and that a split one has left.
	splitIs(t, p, shares(2, 2), whole(1, 2, 0), whole(2, 2, 0))
	splitIs(t, p, shares(2, 3), whole(1, 2, 0), whole(2, 3, 0))
	splitIs(t, p, shares(2, 4), whole(1, 2, 0), split(2, 4, at(0, 0, 1, 2), at(1, 3)))
	splitIs(t, p, shares(6, 1), split(1, 6, at(0, 0, 1, 2, 3, 4), at(1, 5)), whole(2, 1, 1))
	splitIs(t, p, shares(6, 2), split(1, 6, at(0, 0, 1, 2, 3, 4), at(1, 5)), whole(2, 2, 1))
	splitIs(t, p, shares(6, 3), split(1, 6, at(0, 0, 1, 2, 3, 4), at(1, 5)), split(2, 3, at(1, 6, 7), at(2, 0)))
	// The current core is taken, though a higher one has room for the whole unit.
	splitIs(t, left(8, map[int]int{2: 1, 7: 8}), shares(2), split(1, 2, at(2, 0), at(7, 1)))
	// A core that the current one left behind has no room, so nobody comes back to it.
	splitIs(t, left(8, map[int]int{2: 1, 7: 8}), shares(8, 1), split(1, 8, at(2, 0), at(7, 1, 2, 3, 4, 5, 6, 7)), whole(2, 1, 7))
	for _, f := range []int{2, 64} {
		for _, core := range []int{0, 7, 15} {
			splitIs(t, planOf(f, 1<<core), shares(f), whole(1, f, core))
			splitIs(t, planOf(f, 1<<core), shares(f-1, 1), whole(1, f-1, core), whole(2, 1, core))
			fails(t, api.ErrFull, planOf(f, 1<<core), shares(f, 1)...)
		}
	}
}

// TestSplitFull holds P19.2 for the next want behind one that just filled a core: whole there, split, or with its last piece; the tick goes on all the same.
func TestSplitFull(t *testing.T) {
	p := left(8, map[int]int{1: 5, 3: 4, 4: 8})
	splitIs(t, p, shares(5, 4), whole(1, 5, 1), whole(2, 4, 3))
	splitIs(t, p, shares(5, 5), whole(1, 5, 1), split(2, 5, at(3, 0, 1, 2, 3), at(4, 4)))
	splitIs(t, p, shares(3, 2, 1), whole(1, 3, 1), whole(2, 2, 1), whole(3, 1, 3))
	splitIs(t, p, shares(7, 2, 8), split(1, 7, at(1, 0, 1, 2, 3, 4), at(3, 5, 6)), whole(2, 2, 3), whole(3, 8, 4))
	nine := left(10, map[int]int{1: 5, 3: 4, 4: 6, 9: 10})
	splitIs(t, nine, shares(9, 1), split(1, 9, at(1, 0, 1, 2, 3, 4), at(3, 5, 6, 7, 8)), whole(2, 1, 4))
	splitIs(t, nine, shares(9, 6, 3), split(1, 9, at(1, 0, 1, 2, 3, 4), at(3, 5, 6, 7, 8)), whole(2, 6, 4), whole(3, 3, 9))
	splitIs(t, nine, shares(9, 8, 1), split(1, 9, at(1, 0, 1, 2, 3, 4), at(3, 5, 6, 7, 8)), split(2, 8, at(4, 9, 0, 1, 2, 3, 4), at(9, 5, 6)), whole(3, 1, 9))
}

// TestSplitEmpty holds P19.2 for cores without any room, at the beginning, between others, and at the end, and for cores that the plan lacks.
func TestSplitEmpty(t *testing.T) {
	for _, rooms := range []map[int]int{{3: 2, 6: 3}, {0: 0, 3: 2, 6: 3}, {0: 0, 1: 0, 2: 0, 3: 2, 6: 3}, {3: 2, 4: 0, 6: 3}, {3: 2, 4: 0, 5: 0, 6: 3}, {3: 2, 6: 3, 7: 0}, {3: 2, 6: 3, 14: 0, 15: 0}, {1: 0, 3: 2, 5: 0, 6: 3, 9: 0}} {
		p := left(6, rooms)
		splitIs(t, p, shares(1), whole(1, 1, 3))
		splitIs(t, p, shares(2), whole(1, 2, 3))
		splitIs(t, p, shares(2, 3), whole(1, 2, 3), whole(2, 3, 6))
		splitIs(t, p, shares(3), split(1, 3, at(3, 0, 1), at(6, 2)))
		splitIs(t, p, shares(1, 4), whole(1, 1, 3), split(2, 4, at(3, 0), at(6, 1, 2, 3)))
		splitIs(t, p, shares(5), split(1, 5, at(3, 0, 1), at(6, 2, 3, 4)))
		fails(t, api.ErrFull, p, shares(6)...)
		fails(t, api.ErrFull, p, shares(2, 3, 1)...)
	}
	splitIs(t, left(2, map[int]int{0: 1, 1: 0, 15: 1}), shares(2), split(1, 2, at(0, 0), at(15, 1)))
	fails(t, api.ErrFull, left(8, map[int]int{0: 0, 5: 0}), shares(1)...)
}

// TestSplitPieces holds P19.2 for units that come to lie on two cores, on three, and on all sixteen.
func TestSplitPieces(t *testing.T) {
	p := left(10, map[int]int{0: 3, 1: 1, 4: 4, 5: 2})
	splitIs(t, p, shares(4), split(1, 4, at(0, 0, 1, 2), at(1, 3)))
	splitIs(t, p, shares(5), split(1, 5, at(0, 0, 1, 2), at(1, 3), at(4, 4)))
	splitIs(t, p, shares(8), split(1, 8, at(0, 0, 1, 2), at(1, 3), at(4, 4, 5, 6, 7)))
	splitIs(t, p, shares(9), split(1, 9, at(0, 0, 1, 2), at(1, 3), at(4, 4, 5, 6, 7), at(5, 8)))
	splitIs(t, p, shares(10), split(1, 10, at(0, 0, 1, 2), at(1, 3), at(4, 4, 5, 6, 7), at(5, 8, 9)))
	splitIs(t, p, shares(2, 8), whole(1, 2, 0), split(2, 8, at(0, 0), at(1, 1), at(4, 2, 3, 4, 5), at(5, 6, 7)))
	for _, each := range []int{1, 3, 4} {
		rooms, x := map[int]int{}, split(200, 16*each)
		for core := range 16 {
			rooms[core] = each
			var ticks []int
			for i := range each {
				ticks = append(ticks, core*each+i)
			}
			x.Pieces = append(x.Pieces, at(core, ticks...))
		}
		splitIs(t, left(64, rooms), []want{wantOf(200, 16*each)}, x)
		fails(t, api.ErrFull, left(64, rooms), wantOf(200, 16*each), wantOf(1001, 1))
	}
}

// TestSplitRound holds P19.2 for pieces that go on behind the last tick of the frame at tick 0, and for units of the whole frame that are split.
func TestSplitRound(t *testing.T) {
	p := left(6, map[int]int{0: 3, 2: 5, 3: 6, 8: 6})
	splitIs(t, p, shares(4, 6), split(1, 4, at(0, 0, 1, 2), at(2, 3)), split(2, 6, at(2, 4, 5, 0, 1), at(3, 2, 3)))
	splitIs(t, p, shares(6, 6), split(1, 6, at(0, 0, 1, 2), at(2, 3, 4, 5)), split(2, 6, at(2, 0, 1), at(3, 2, 3, 4, 5)))
	splitIs(t, p, shares(6, 3, 6), split(1, 6, at(0, 0, 1, 2), at(2, 3, 4, 5)), split(2, 3, at(2, 0, 1), at(3, 2)), split(3, 6, at(3, 3, 4, 5, 0, 1), at(8, 2)))
	splitIs(t, p, shares(5, 4, 6), split(1, 5, at(0, 0, 1, 2), at(2, 3, 4)), split(2, 4, at(2, 5, 0, 1), at(3, 2)), split(3, 6, at(3, 3, 4, 5, 0, 1), at(8, 2)))
	splitIs(t, p, shares(5, 5, 6, 4), split(1, 5, at(0, 0, 1, 2), at(2, 3, 4)), split(2, 5, at(2, 5, 0, 1), at(3, 2, 3)), split(3, 6, at(3, 4, 5, 0, 1), at(8, 2, 3)), whole(4, 4, 8))
	// The tick is the first again behind the last one, wherever a piece ends.
	splitIs(t, left(4, map[int]int{0: 1, 1: 3, 2: 2, 3: 4}), shares(4, 3), split(1, 4, at(0, 0), at(1, 1, 2, 3)), split(2, 3, at(2, 0, 1), at(3, 2)))
	splitIs(t, left(4, map[int]int{0: 1, 1: 4, 2: 4}), shares(4, 4), split(1, 4, at(0, 0), at(1, 1, 2, 3)), split(2, 4, at(1, 0), at(2, 1, 2, 3)))
	// The frame of 64 has all bits.
	low, high := piece{Core: 0, Ticks: 1<<40 - 1}, piece{Core: 1, Ticks: math.MaxUint64 &^ (1<<40 - 1)}
	great := left(64, map[int]int{0: 40, 1: 60, 2: 64})
	splitIs(t, great, shares(64), split(1, 64, low, high))
	splitIs(t, great, shares(64, 64), split(1, 64, low, high), split(2, 64, piece{Core: 1, Ticks: 1<<36 - 1}, piece{Core: 2, Ticks: math.MaxUint64 &^ (1<<36 - 1)}))
	splitIs(t, great, shares(60, 64, 28), split(1, 60, low, piece{Core: 1, Ticks: 1<<60 - 1<<40}),
		split(2, 64, piece{Core: 1, Ticks: 15<<60 | 1<<36 - 1}, piece{Core: 2, Ticks: 1<<60 - 1<<36}), whole(3, 28, 2))
}

// TestSplitShared holds P19.2 for several split units on one core, one ending and the next beginning there, and for whole units behind a split one's last piece.
func TestSplitShared(t *testing.T) {
	p := left(8, map[int]int{0: 3, 1: 6, 2: 7, 9: 8})
	splitIs(t, p, shares(5, 6, 7, 6),
		split(1, 5, at(0, 0, 1, 2), at(1, 3, 4)), split(2, 6, at(1, 5, 6, 7, 0), at(2, 1, 2)), split(3, 7, at(2, 3, 4, 5, 6, 7), at(9, 0, 1)), whole(4, 6, 9))
	splitIs(t, p, shares(5, 3, 3), split(1, 5, at(0, 0, 1, 2), at(1, 3, 4)), whole(2, 3, 1), split(3, 3, at(1, 5), at(2, 6, 7)))
	splitIs(t, p, shares(5, 1, 2, 1, 7), split(1, 5, at(0, 0, 1, 2), at(1, 3, 4)), whole(2, 1, 1), whole(3, 2, 1), whole(4, 1, 1), whole(5, 7, 2))
	splitIs(t, p, shares(1, 3, 2, 4, 8), whole(1, 1, 0), split(2, 3, at(0, 0, 1), at(1, 2)), whole(3, 2, 1), split(4, 4, at(1, 3, 4, 5), at(2, 6)), split(5, 8, at(2, 7, 0, 1, 2, 3, 4), at(9, 5, 6)))
	// One ends, whole ones follow, and the next one begins, on a core without any other place.
	splitIs(t, left(4, map[int]int{4: 1, 5: 4, 6: 4}), shares(2, 2, 4), split(1, 2, at(4, 0), at(5, 1)), whole(2, 2, 5), split(3, 4, at(5, 2), at(6, 3, 0, 1)))
	// As many split units as there may be.
	q, l, placed := planOf(2, 0xffff), []want{wantOf(1, 1)}, []place{whole(1, 1, 0)}
	for i := range 15 {
		l = append(l, wantOf(2+i, 2))
		placed = append(placed, split(2+i, 2, at(i, 0), at(i+1, 1)))
	}
	splitIs(t, q, l, placed...)
	splitIs(t, q, append(l, wantOf(1040, 1)), append(placed, whole(1040, 1, 15))...)
	fails(t, api.ErrFull, q, append(l, wantOf(1040, 2))...)
}

// TestSplitOrder holds P19.2 for wants in the given order, which is not that of chapter 8.
func TestSplitOrder(t *testing.T) {
	p := left(5, map[int]int{0: 3, 1: 2, 2: 5})
	a, b, c := wantOf(7, 1), wantOf(3, 3), wantOf(1002, 3)
	splitIs(t, p, []want{a, b, c}, whole(7, 1, 0), split(3, 3, at(0, 0, 1), at(1, 2)), split(1002, 3, at(1, 3), at(2, 4, 0)))
	splitIs(t, p, []want{a, c, b}, whole(7, 1, 0), split(1002, 3, at(0, 0, 1), at(1, 2)), split(3, 3, at(1, 3), at(2, 4, 0)))
	splitIs(t, p, []want{b, a, c}, whole(3, 3, 0), whole(7, 1, 1), split(1002, 3, at(1, 0), at(2, 1, 2)))
	splitIs(t, p, []want{c, a, b}, whole(1002, 3, 0), whole(7, 1, 1), split(3, 3, at(1, 0), at(2, 1, 2)))
	splitIs(t, p, []want{b, c, a}, whole(3, 3, 0), split(1002, 3, at(1, 0, 1), at(2, 2)), whole(7, 1, 2))
	splitIs(t, p, []want{c, b, a}, whole(1002, 3, 0), split(3, 3, at(1, 0, 1), at(2, 2)), whole(7, 1, 2))
	splitIs(t, planOf(3, 6), shares(1, 2, 3), whole(1, 1, 1), whole(2, 2, 1), whole(3, 3, 2))
	splitIs(t, planOf(3, 6), shares(1, 3, 2), whole(1, 1, 1), split(2, 3, at(1, 0, 1), at(2, 2)), whole(3, 2, 2))
}

// TestSplitBusy holds P19.2 and P19.4 for plans that hold whole places already, of units below, between and above the new ones.
func TestSplitBusy(t *testing.T) {
	p := planOf(10, 1<<3|1<<5|1<<7|1<<15, whole(2, 3, 3), whole(9, 1, 15), whole(200, 2, 3), whole(1003, 4, 5), whole(1004, 9, 15))
	got := splitIs(t, p, []want{wantOf(1, 6), wantOf(1040, 7), wantOf(199, 2), wantOf(5, 3), wantOf(1001, 2)},
		split(1, 6, at(3, 0, 1, 2, 3, 4), at(5, 5)), split(1040, 7, at(5, 6, 7, 8, 9, 0), at(7, 1, 2)), whole(199, 2, 7), whole(5, 3, 7), whole(1001, 2, 7))
	var units []int
	for _, x := range got.Places {
		units = append(units, x.Unit)
	}
	if !slices.Equal(units, []int{1, 2, 5, 9, 199, 200, 1001, 1003, 1004, 1040}) {
		t.Error(units)
	}
	splitIs(t, p, []want{wantOf(1, 1)}, whole(1, 1, 3))
	splitIs(t, p, []want{wantOf(100, 10)}, split(100, 10, at(3, 0, 1, 2, 3, 4), at(5, 5, 6, 7, 8, 9)))
	splitIs(t, p, []want{wantOf(1040, 5), wantOf(1, 6), wantOf(10, 10)}, whole(1040, 5, 3), whole(1, 6, 5), whole(10, 10, 7))
	fails(t, api.ErrFull, p, wantOf(1040, 5), wantOf(1, 6), wantOf(10, 10), wantOf(11, 1))
}

// TestSplitTotal holds P19.2 and P19.3 for wants that together have just as many ticks as there is room, one fewer and one more.
func TestSplitTotal(t *testing.T) {
	rng := rand.New(rand.NewSource(193))
	for range 3000 {
		p := somePlan(rng, false)
		free := freeOf(p)
		l := someWants(rng, p, free)
		if sumOf(l) != free || len(l) == 0 {
			continue
		}
		got := checkSplit(t, p, l)
		if freeOf(got) != 0 {
			t.Errorf("Split(%v, %v): %v", p, l, got)
		}
		i := rng.Intn(len(l))
		less, more := slices.Clone(l), slices.Clone(l)
		less[i].Share--
		if less[i].Share == 0 {
			less = slices.Delete(less, i, i+1)
		}
		if got := checkSplit(t, p, less); freeOf(got) != 1 {
			t.Errorf("Split(%v, %v): %v", p, less, got)
		}
		if more[i].Share < p.Frame {
			more[i].Share++
			fails(t, api.ErrFull, p, more...)
		}
	}
}

// TestSplitGreat holds P19.2 for the greatest and the smallest frame, all cores and as many units as there may be.
func TestSplitGreat(t *testing.T) {
	for _, share := range []int{1, 4} {
		var placed []place
		for i, w := range shares(slices.Repeat([]int{share}, 240)...) {
			placed = append(placed, whole(w.Unit, share, i*share/64))
		}
		splitIs(t, planOf(64, 0xffff), shares(slices.Repeat([]int{share}, 240)...), placed...)
	}
	for _, f := range []int{2, 64} {
		for share := 1; share <= f; share++ {
			most := min(16*f/share, 240)
			checkSplit(t, planOf(f, 0xffff), shares(slices.Repeat([]int{share}, most)...))
			if most < 240 {
				fails(t, api.ErrFull, planOf(f, 0xffff), shares(slices.Repeat([]int{share}, most+1)...)...)
			}
		}
	}
	fails(t, api.ErrFull, planOf(64, 1), shares(slices.Repeat([]int{64}, 240)...)...)
}

// TestSplitErrors holds P19.2 for each error alone.
func TestSplitErrors(t *testing.T) {
	for _, p := range wrongPlans() {
		fails(t, api.ErrPlan, p)
		fails(t, api.ErrPlan, p, wantOf(150, 1))
		fails(t, api.ErrPlan, p, shares(1, 2)...)
	}
	p := planOf(8, 3, whole(1, 4, 0), whole(1001, 6, 1))
	for _, unit := range append([]int{0, 201, 1000, 1041, 2001}, farNumbers...) {
		fails(t, api.ErrID, p, wantOf(unit, 1))
		fails(t, api.ErrID, p, wantOf(5, 2), wantOf(unit, 1), wantOf(6, 1))
	}
	for _, share := range append([]int{0, 9, 64, 65}, farNumbers...) {
		fails(t, api.ErrShare, p, wantOf(5, share))
		fails(t, api.ErrShare, p, wantOf(5, 2), wantOf(6, 1), wantOf(7, share))
	}
	fails(t, api.ErrTwice, p, wantOf(5, 2), wantOf(5, 2))
	fails(t, api.ErrTwice, p, wantOf(5, 2), wantOf(6, 2), wantOf(5, 1))
	for _, unit := range []int{1, 1001} {
		fails(t, api.ErrTwice, p, wantOf(unit, 1))
		fails(t, api.ErrTwice, p, wantOf(unit, 4), wantOf(5, 2))
		fails(t, api.ErrTwice, p, wantOf(5, 2), wantOf(6, 1), wantOf(unit, 2))
	}
	fails(t, api.ErrFull, p, wantOf(5, 7))
	fails(t, api.ErrFull, p, wantOf(5, 6), wantOf(6, 1))
	splitIs(t, p, []want{wantOf(5, 6)}, split(5, 6, at(0, 0, 1, 2, 3), at(1, 4, 5)))
}

// TestSplitState holds P19.2 for plans that have split places: whatever is wanted, and even if nothing is.
func TestSplitState(t *testing.T) {
	one := planOf(8, 7, split(3, 4, at(0, 0, 1), at(1, 2, 3)))
	for _, p := range []api.Plan{
		one, plan.Put(one, whole(1, 2, 2)), plan.Put(one, split(1040, 2, at(1, 4), at(2, 5))),
		planOf(2, 3, split(3, 2, at(0, 0), at(1, 1))), planOf(64, 0xffff, split(1, 2, at(14, 63), at(15, 62))),
	} {
		fails(t, api.ErrState, p)
		fails(t, api.ErrState, p, wantOf(5, 1))
		fails(t, api.ErrState, p, wantOf(7, 1), wantOf(6, 1))
		for _, x := range p.Places {
			fails(t, api.ErrTwice, p, wantOf(x.Unit, 1))
			fails(t, api.ErrTwice, p, wantOf(5, 1), wantOf(x.Unit, x.Share))
		}
	}
}

// faulty are the errors of the wants themselves, each alone.
var faulty = []struct {
	e api.Errno
	l []want
}{
	{api.ErrID, []want{wantOf(300, 1)}},
	{api.ErrShare, []want{wantOf(7, 9)}},
	{api.ErrTwice, []want{wantOf(8, 1), wantOf(8, 1)}},
}

// TestSplitPairs holds P19.2 for errors at once, each pair of them and all more: which one is named, however the wants are ordered.
func TestSplitPairs(t *testing.T) {
	right := planOf(8, 7, whole(1, 4, 0), whole(1001, 6, 1), whole(1002, 7, 2))
	for _, own := range faulty {
		errnos := []api.Errno{api.ErrPlan, own.e, api.ErrTwice, api.ErrState, api.ErrFull}
		wants := [][]want{nil, own.l, {wantOf(1001, 1)}, nil, {wantOf(9, 8)}}
		for which := 1; which < 1<<len(errnos); which++ {
			e, p, l := api.OK, right, []want{wantOf(5, 1)}
			for i, fault := range errnos {
				if which>>i%2 == 0 {
					continue
				}
				if e == api.OK {
					e = fault
				}
				if fault == api.ErrPlan {
					p = plan.Put(p, whole(1040, 5, 0))
				}
				if fault == api.ErrState {
					p = plan.Put(p, split(3, 2, at(0, 0), at(1, 1)))
				}
				l = append(l, wants[i]...)
			}
			fails(t, e, p, l...)
			slices.Reverse(l)
			fails(t, e, p, l...)
		}
	}
	// A unit that is split in the plan is there, which is told ahead of its being split.
	halved := plan.Put(right, split(3, 2, at(0, 0), at(1, 1)))
	fails(t, api.ErrTwice, halved, wantOf(5, 1), wantOf(3, 1))
	fails(t, api.ErrTwice, halved, wantOf(5, 8), wantOf(3, 8))
	fails(t, api.ErrState, halved, wantOf(5, 8), wantOf(4, 8))
}

// TestSplitWants holds P19.2 for several errors of the wants themselves: that of the first want that has any, and of that want the first.
func TestSplitWants(t *testing.T) {
	p := planOf(8, 3, whole(1, 4, 0), whole(1001, 6, 1))
	for _, k := range faulty {
		for _, other := range faulty {
			fails(t, k.e, p, append(slices.Clone(k.l), other.l...)...)
		}
	}
	fails(t, api.ErrID, p, wantOf(300, 9))
	fails(t, api.ErrID, p, wantOf(5, 1), wantOf(0, 0), wantOf(0, 1))
	fails(t, api.ErrShare, p, wantOf(5, 1), wantOf(5, 9))
	fails(t, api.ErrShare, p, wantOf(1, 9))
	fails(t, api.ErrShare, p, wantOf(1, 1), wantOf(1, 0))
	fails(t, api.ErrTwice, p, wantOf(1, 1), wantOf(1, 1))
	// A frame that may not be is the plan's error.
	for _, f := range append([]int{0, 1, 65}, farNumbers...) {
		fails(t, api.ErrPlan, planOf(f, 3), wantOf(300, 9), wantOf(1, 1), wantOf(1, 1))
	}
}

// digits are n numbers from 0 to base - 1, another row for each code.
func digits(code, base, n int) []int {
	var l []int
	for range n {
		l = append(l, code%base)
		code /= base
	}
	return l
}

func power(base, n int) int { return int(math.Pow(float64(base), float64(n))) }

// TestSplitSmall holds P19.2 to P19.4 for all rooms of a few cores and all shares of a few units, in small frames.
func TestSplitSmall(t *testing.T) {
	for f := 2; f <= 4; f++ {
		for _, cores := range [][]int{{0}, {15}, {0, 1}, {1, 3}, {2, 3, 15}} {
			for code := range power(f+1, len(cores)) {
				rooms := map[int]int{}
				for i, room := range digits(code, f+1, len(cores)) {
					rooms[cores[i]] = room
				}
				checkSmall(t, left(f, rooms))
			}
		}
	}
}

// checkSmall is TestSplitSmall for one plan.
func checkSmall(t *testing.T, p api.Plan) {
	t.Helper()
	for n := range 5 {
		for code := range power(p.Frame, n) {
			l := shares(digits(code, p.Frame, n)...)
			for i := range l {
				l[i].Share++
			}
			checkSplit(t, p, l)
		}
	}
}

// someWants are wants of units that the plan lacks, in any order. They have so many ticks together if the units suffice.
func someWants(rng *rand.Rand, p api.Plan, sum int) []want {
	var l []want
	greatest := 1 + rng.Intn(p.Frame)
	for _, i := range rng.Perm(240) {
		unit := 1 + i
		if unit > 200 {
			unit += 800
		}
		if sum <= 0 || has(p, unit) {
			continue
		}
		w := wantOf(unit, 1+rng.Intn(min(sum, greatest)))
		l = append(l, w)
		sum -= w.Share
	}
	return l
}

// TestSplitAny holds P19.2 to P19.4 for any plans and wants, some of which may not be.
func TestSplitAny(t *testing.T) {
	rng := rand.New(rand.NewSource(192))
	splits, pieces, round, ended := 0, 0, 0, map[api.Errno]int{}
	for range 6000 {
		p := somePlan(rng, rng.Intn(10) == 0)
		l := someWants(rng, p, rng.Intn(freeOf(p)+3))
		if rng.Intn(5) == 0 && len(l) > 0 {
			l[rng.Intn(len(l))].Share += rng.Intn(9) - 4
			l[rng.Intn(len(l))].Unit += []int{-1, 1, -1000, 1000}[rng.Intn(4)]
		}
		if rng.Intn(20) == 0 && len(l) > 0 && len(p.Places) > 0 {
			l[rng.Intn(len(l))].Unit = p.Places[rng.Intn(len(p.Places))].Unit
		}
		got := checkSplit(t, p, l)
		ended[errorOf(p, l)]++
		for _, x := range got.Places {
			splits += min(len(x.Pieces), 1)
			if len(x.Pieces) > 2 {
				pieces++
			}
			for _, y := range x.Pieces {
				if y.Ticks&1 == 1 && y.Ticks>>(p.Frame-1) == 1 {
					round++
				}
			}
		}
	}
	if splits < 1000 || pieces < 100 || round < 100 {
		t.Error(splits, pieces, round)
	}
	for _, e := range []api.Errno{api.OK, api.ErrID, api.ErrShare, api.ErrTwice, api.ErrState, api.ErrFull} {
		if ended[e] < 30 {
			t.Error(ended)
		}
	}
}

// roomy is a plan whose places and pieces have spare capacity, in which something stands.
func roomy(p api.Plan) api.Plan {
	q := deep(p)
	q.Places = append(q.Places, whole(77, 77, 77), whole(78, 78, 78))[:len(p.Places)]
	for i, x := range q.Places {
		q.Places[i].Pieces = append(x.Pieces, at(79, 1), at(80, 2))[:len(x.Pieces)]
	}
	return q
}

// stretched is a plan whose spare capacity is part of it.
func stretched(p api.Plan) api.Plan {
	p.Places = slices.Clone(p.Places[:cap(p.Places)])
	for i, x := range p.Places {
		p.Places[i].Pieces = slices.Clone(x.Pieces[:cap(x.Pieces)])
	}
	return p
}

// spoil changes all of a plan's memory, its spare capacity too.
func spoil(p api.Plan) {
	for i, x := range p.Places[:cap(p.Places)] {
		for j := range x.Pieces[:cap(x.Pieces)] {
			x.Pieces[:cap(x.Pieces)][j] = piece{Core: 91, Ticks: 92}
		}
		p.Places[:cap(p.Places)][i] = whole(93, 94, 95)
	}
}

// TestSplitMemory holds that no argument is changed or kept, and that results are memory of their own, whatever is placed.
func TestSplitMemory(t *testing.T) {
	busy := left(8, map[int]int{0: 3, 1: 6, 2: 7, 9: 8})
	for _, k := range []struct {
		p api.Plan
		l []want
	}{
		{planOf(4, 3), nil}, {planOf(4, 3), shares(1, 4, 2)}, {busy, nil}, {busy, shares(3, 6)},
		{busy, shares(5, 6, 7, 6)}, {busy, []want{wantOf(1040, 8), wantOf(200, 1), wantOf(1, 8)}},
	} {
		p := roomy(k.p)
		l := append(slices.Clone(k.l), wantOf(98, 99), wantOf(100, 101))
		args, wants := stretched(p), slices.Clone(l)
		got, _ := chain.Split(p, l[:len(k.l)]...)
		other, _ := chain.Split(p, l[:len(k.l)]...)
		right := splitOf(k.p, k.l)
		spoil(got)
		if !samePlan(stretched(p), args) || !slices.Equal(l, wants) {
			t.Errorf("Split(%v, %v) shares memory: %v, %v", k.p, k.l, p, l)
		}
		if !samePlan(other, right) {
			t.Errorf("Split(%v, %v) shares memory with another: %v", k.p, k.l, other)
		}
		spoil(p)
		for i := range l {
			l[i] = wantOf(96, 97)
		}
		if !samePlan(other, right) {
			t.Errorf("Split(%v, %v) keeps arguments: %v", k.p, k.l, other)
		}
		// What is appended to the pieces of one place is not in another one.
		for _, x := range other.Places {
			_ = append(x.Pieces, at(81, 3))
		}
		if !samePlan(other, right) {
			t.Errorf("Split(%v, %v) shares memory within: %v", k.p, k.l, other)
		}
	}
}

// TestSplitErrorMemory holds that no argument is changed beside an error.
func TestSplitErrorMemory(t *testing.T) {
	p := roomy(planOf(8, 7, whole(1, 4, 0), split(3, 4, at(0, 0, 1), at(1, 2, 3))))
	l := append(shares(2, 1)[1:], wantOf(6, 1), wantOf(98, 99))
	args, wants := stretched(p), slices.Clone(l)
	fails(t, api.ErrState, p, l[:2]...)
	fails(t, api.ErrTwice, p, append(l[:1:1], wantOf(3, 1))...)
	fails(t, api.ErrShare, p, append(l[:1:1], wantOf(7, 11))...)
	if !samePlan(stretched(p), args) || !slices.Equal(l, wants) {
		t.Error(p, l)
	}
}
