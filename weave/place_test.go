package weave_test

import (
	"math/bits"
	"math/rand"
	"slices"
	"testing"

	"dogwatch/api"
	"dogwatch/order"
	"dogwatch/plan"
	"dogwatch/weave"
)

// noCore stands for none, behind all cores.
const noCore = 16

// lowestOf is the core that the words of the chapter give a tick, where so many ticks are still missing.
func (s state) lowestOf(tick, missing int) int {
	for core := range 16 {
		if s.may(tick, core) && s.without(core).least(tick+1) >= missing-1 {
			return core
		}
	}
	return noCore
}

// placeOf is the model of Place for a want that may be woven.
func placeOf(p api.Plan, w want) place {
	s, own := stateOf(p), [16]uint64{}
	for tick, missing := 0, w.Share; missing > 0; tick++ {
		if core := s.lowestOf(tick, missing); core != noCore {
			s, missing = s.without(core), missing-1
			own[core] |= 1 << tick
		}
	}
	return split(w.Unit, w.Share, piecesOf(own)...)
}

// firstTried is the first of all ways to assign as many ticks as are missing, where each tick is tried on each core and then on none.
func (s state) firstTried(tick, missing int, own [16]uint64) ([16]uint64, bool) {
	if missing == 0 || tick == s.frame {
		return own, missing == 0
	}
	for core := range 16 {
		if !s.may(tick, core) {
			continue
		}
		more := own
		more[core] |= 1 << tick
		if all, ok := s.without(core).firstTried(tick+1, missing-1, more); ok {
			return all, true
		}
	}
	return s.firstTried(tick+1, missing, own)
}

// errorOf is the error of Place by the document's words.
func errorOf(p api.Plan, w want) api.Errno {
	if plan.Check(p) != api.OK {
		return api.ErrPlan
	}
	if e := order.Check(p.Frame, w); e != api.OK {
		return e
	}
	splits := 0
	for _, x := range p.Places {
		if x.Unit == w.Unit {
			return api.ErrTwice
		}
		splits += min(len(x.Pieces), 1)
	}
	if w.Share <= greatestRoom(p) || splits == bits.OnesCount32(p.Cores)-1 {
		return api.ErrState
	}
	if w.Share > stateOf(p).least(0) {
		return api.ErrFull
	}
	return api.OK
}

// checkPlace holds P21.2 for any plan and want, and the properties of what it comes to.
func checkPlace(t *testing.T, p api.Plan, w want) (place, api.Errno) {
	t.Helper()
	before := deep(p)
	got, e := weave.Place(p, w)
	if !samePlan(p, before) {
		t.Errorf("Place(%v, %v) left %v", before, w, p)
	}
	if wrong := errorOf(p, w); wrong != api.OK {
		if e != wrong || !plan.SamePlace(got, place{}) {
			t.Errorf("Place(%v, %v): %v, %d; want nothing, %d", p, w, got, e, wrong)
		}
		return got, e
	}
	if right := placeOf(p, w); e != api.OK || !plan.SamePlace(got, right) {
		t.Errorf("Place(%v, %v): %v, %d; want %v", p, w, got, e, right)
	}
	if isSmall(p) {
		own, ok := stateOf(p).firstTried(0, w.Share, [16]uint64{})
		if right := split(w.Unit, w.Share, piecesOf(own)...); !ok || !plan.SamePlace(got, right) {
			t.Errorf("Place(%v, %v): %v; the first way is %v", p, w, got, right)
		}
	}
	checkValid(t, p, got)
	checkLowest(t, p, got)
	return got, e
}

// checkValid holds P21.3: the plan with a woven place is valid, and its other places are as they were.
func checkValid(t *testing.T, p api.Plan, x place) {
	t.Helper()
	q := plan.Put(p, x)
	if plan.Check(q) != api.OK || !samePlan(q, with(p, x)) || !samePlan(plan.Drop(q, x.Unit), p) {
		t.Errorf("%v with %v became %v", p, x, q)
	}
	if plan.Splits(q) != plan.Splits(p)+1 || plan.Free(q) != plan.Free(p)-x.Share {
		t.Errorf("%v with %v became %v", p, x, q)
	}
}

// coreOf is the core on which a split place has a tick.
func coreOf(x place, tick int) int {
	for _, y := range x.Pieces {
		if y.Ticks>>tick%2 == 1 {
			return y.Core
		}
	}
	return noCore
}

// checkLowest holds that each tick of a woven place, from tick 0 on, lies on the lowest core that the words of the chapter allow, and that it ends when it has as many as its Share.
func checkLowest(t *testing.T, p api.Plan, x place) {
	t.Helper()
	s, missing := stateOf(p), x.Share
	for tick := range p.Frame {
		core := coreOf(x, tick)
		if missing > 0 && core != s.lowestOf(tick, missing) || missing == 0 && core != noCore {
			t.Errorf("%v has tick %d of %v on %d", p, tick, x, core)
			return
		}
		if core != noCore {
			s, missing = s.without(core), missing-1
		}
	}
	if missing != 0 {
		t.Errorf("%v lacks %d ticks of %v", p, missing, x)
	}
}

// placeIs holds Place, and the models too, against the pieces that a test names.
func placeIs(t *testing.T, p api.Plan, w want, pieces ...piece) {
	t.Helper()
	if e := errorOf(p, w); e != api.OK {
		t.Fatalf("%v, %v: %d", p, w, e)
	}
	got, e := checkPlace(t, p, w)
	if right := split(w.Unit, w.Share, pieces...); e != api.OK || !plan.SamePlace(got, right) {
		t.Errorf("Place(%v, %v): %v, %d; want %v", p, w, got, e, right)
	}
}

// fails holds Place, and the model too, against an error that a test names; the place beside it is the zero value.
func fails(t *testing.T, e api.Errno, p api.Plan, w want) {
	t.Helper()
	if wrong := errorOf(p, w); wrong != e {
		t.Errorf("the model of %v, %v: %d; want %d", p, w, wrong, e)
	}
	got, wrong := checkPlace(t, p, w)
	if wrong != e || got.Unit != 0 || got.Share != 0 || got.Core != 0 || len(got.Pieces) != 0 {
		t.Errorf("Place(%v, %v): %v, %d; want nothing, %d", p, w, got, wrong, e)
	}
}

// TestPlaceWhole holds P21.2 for cores without windows: each one's room is used up ahead of the next one's.
func TestPlaceWhole(t *testing.T) {
	placeIs(t, left(8, map[int]int{0: 2, 1: 3}), wantOf(1, 5), at(0, 0, 1), at(1, 2, 3, 4))
	placeIs(t, left(8, map[int]int{0: 2, 1: 3}), wantOf(1, 4), at(0, 0, 1), at(1, 2, 3))
	placeIs(t, left(8, map[int]int{0: 3, 1: 2}), wantOf(1040, 4), at(0, 0, 1, 2), at(1, 3))
	placeIs(t, left(2, map[int]int{0: 1, 1: 1}), wantOf(200, 2), at(0, 0), at(1, 1))
	placeIs(t, left(2, map[int]int{0: 1, 15: 1}), wantOf(1001, 2), at(0, 0), at(15, 1))
	placeIs(t, left(9, map[int]int{2: 0, 5: 3, 6: 0, 15: 4}), wantOf(7, 6), at(5, 0, 1, 2), at(15, 3, 4, 5))
	placeIs(t, left(9, map[int]int{2: 1, 5: 3, 7: 4, 15: 4}), wantOf(7, 9), at(2, 0), at(5, 1, 2, 3), at(7, 4, 5, 6, 7), at(15, 8))
	placeIs(t, left(9, map[int]int{2: 1, 5: 3, 7: 4, 15: 4}), wantOf(7, 5), at(2, 0), at(5, 1, 2, 3), at(7, 4))
	placeIs(t, left(9, map[int]int{1: 4, 3: 1, 8: 1}), wantOf(7, 5), at(1, 0, 1, 2, 3), at(3, 4))
	placeIs(t, left(64, map[int]int{4: 40, 9: 24}), wantOf(7, 64), span(4, 0, 40), span(9, 40, 64))
	placeIs(t, left(64, map[int]int{4: 63, 9: 1}), wantOf(7, 64), span(4, 0, 63), at(9, 63))
	placeIs(t, left(64, map[int]int{4: 1, 9: 63}), wantOf(7, 64), at(4, 0), span(9, 1, 64))
}

// TestPlaceMost holds P21.2 for wants of just as many ticks as Most, of one fewer and of one more, and of one more than the greatest room.
func TestPlaceMost(t *testing.T) {
	for _, k := range []struct {
		p             api.Plan
		greatest, all int
	}{
		{left(8, map[int]int{0: 2, 1: 3}), 3, 5}, {left(8, map[int]int{0: 0, 1: 3}), 3, 3}, {left(8, even(16, 0)), 0, 0},
		{left(8, map[int]int{3: 1, 15: 1, 7: 1}), 1, 3}, {left(64, even(16, 3)), 3, 48}, {left(64, even(16, 5)), 5, 64},
		{filled(stairs(16, 16), even(16, 1)), 1, 16}, {filled(stairs(20, 16), even(16, 1)), 1, 16}, {stairs(16, 16), 2, 16}, {stairs(7, 5), 4, 7},
		{planOf(6, 15, split(1, 6, at(0, 0, 1, 2, 3), at(2, 4, 5)), split(2, 5, at(1, 0, 1, 2, 3), at(3, 4)), whole(7, 4, 2), whole(8, 4, 3)), 2, 3},
		{planOf(4, 7, split(1, 2, at(1, 3), at(2, 0)), whole(7, 3, 0), whole(8, 3, 2)), 3, 4},
	} {
		mostIs(t, k.p, k.all)
		for share := 1; share <= k.p.Frame; share++ {
			switch {
			case share <= k.greatest:
				fails(t, api.ErrState, k.p, wantOf(50, share))
			case share > k.all:
				fails(t, api.ErrFull, k.p, wantOf(50, share))
			default:
				if x, e := checkPlace(t, k.p, wantOf(50, share)); e != api.OK || len(x.Pieces) < 2 {
					t.Errorf("Place(%v, %d): %v, %d", k.p, share, x, e)
				}
			}
		}
	}
}

// TestPlaceFits holds P21.2 for wants that fit whole on one core, the first, the last or one between, though they could be woven too.
func TestPlaceFits(t *testing.T) {
	for _, core := range []int{0, 4, 9, 15} {
		rooms := map[int]int{0: 2, 4: 2, 9: 2, 15: 2}
		rooms[core] = 5
		p := left(12, rooms)
		for share := 1; share <= 5; share++ {
			fails(t, api.ErrState, p, wantOf(7, share))
		}
		if _, e := checkPlace(t, p, wantOf(7, 6)); e != api.OK {
			t.Errorf("Place(%v, 6): %d", p, e)
		}
	}
	// A core that has room has a window too.
	p := planOf(4, 7, split(1, 4, at(0, 0, 1), at(1, 2, 3)), whole(2, 3, 2))
	fails(t, api.ErrState, p, wantOf(7, 1))
	fails(t, api.ErrState, p, wantOf(7, 2))
	placeIs(t, p, wantOf(7, 3), at(0, 2), at(1, 0, 1))
	placeIs(t, p, wantOf(7, 4), at(0, 2, 3), at(1, 0, 1))
}

// TestPlaceSplits holds P21.2 for plans whose split places are the number of cores minus one, and one fewer.
func TestPlaceSplits(t *testing.T) {
	p := planOf(6, 3, whole(7, 3, 0), whole(8, 2, 1))
	placeIs(t, p, wantOf(9, 6), at(0, 0, 1, 2), at(1, 3, 4, 5))
	fails(t, api.ErrState, with(p, split(1, 2, at(0, 0), at(1, 1))), wantOf(9, 4))
	q := planOf(6, 0x8003, split(1, 2, at(0, 0), at(1, 1)), whole(7, 3, 0), whole(8, 2, 1), whole(10, 5, 15))
	placeIs(t, q, wantOf(9, 6), at(0, 1, 2), at(1, 0, 3, 4), at(15, 5))
	r := with(q, split(2, 2, at(0, 5), at(15, 0)))
	mostIs(t, r, 4)
	for share := 1; share <= 6; share++ {
		fails(t, api.ErrState, r, wantOf(9, share))
	}
	// Woven places count as well: when the last one that may be is woven, there is no room left.
	for n := 2; n <= 16; n++ {
		p := left(64, even(n, n-1))
		for unit := 1; unit < n; unit++ {
			x, e := checkPlace(t, p, wantOf(unit, n))
			if e != api.OK {
				t.Fatalf("Place(%v, %d): %d", p, n, e)
			}
			p = plan.Put(p, x)
		}
		fails(t, api.ErrState, p, wantOf(50, n))
		fails(t, api.ErrState, plan.Drop(p, 101), wantOf(50, 64))
	}
}

// TestPlaceOne holds P21.2 for plans with one core: no unit can be split there.
func TestPlaceOne(t *testing.T) {
	for core := range 16 {
		for _, f := range []int{2, 8, 64} {
			for _, room := range []int{0, 1, f - 1, f} {
				for share := 1; share <= f; share++ {
					fails(t, api.ErrState, left(f, map[int]int{core: room}), wantOf(7, share))
				}
			}
		}
	}
}

// TestPlaceUnused holds P21.2 for ticks that are left unused, as the room of each core whose gap they are is exhausted; a tick that is no core's gap no plan can have.
func TestPlaceUnused(t *testing.T) {
	// From the beginning: tick 0 is a gap of full cores alone.
	p := planOf(4, 15, split(1, 2, at(0, 1), at(1, 0)), split(2, 2, at(2, 0), at(3, 1)), whole(7, 3, 0), whole(8, 3, 3), whole(9, 1, 1), whole(10, 2, 2))
	placeIs(t, p, wantOf(3, 3), at(1, 1, 2), at(2, 3))
	// By an earlier tick: tick 1 is a gap of the core 0, which has tick 0, and of the full core 2.
	q := planOf(4, 7, split(1, 2, at(1, 1), at(2, 0)), whole(7, 3, 0), whole(8, 1, 1), whole(9, 3, 2))
	placeIs(t, q, wantOf(3, 3), at(0, 0), at(1, 2, 3))
	// Two in a row; those behind the last that is missing are left as they are.
	r := planOf(8, 7, split(1, 4, at(1, 1, 2, 7), at(2, 0)), whole(7, 7, 0), whole(8, 3, 1), whole(9, 7, 2))
	placeIs(t, r, wantOf(3, 3), at(0, 0), at(1, 3, 4))
	fails(t, api.ErrState, r, wantOf(3, 2))
	fails(t, api.ErrFull, r, wantOf(3, 4))
	s := filled(stairs(16, 16), map[int]int{
		0: 0, 1: 1, 2: 1, 3: 1, 4: 1, 5: 1, 6: 1, 7: 0, 8: 0, 9: 1, 10: 1, 11: 1, 12: 1, 13: 1, 14: 1, 15: 1,
	})
	var pieces []piece
	for core := range 16 {
		if core >= 1 && core <= 6 || core >= 9 {
			pieces = append(pieces, at(core, core-1))
		}
	}
	placeIs(t, s, wantOf(50, 13), pieces...)
	placeIs(t, s, wantOf(50, 12), pieces[:12]...)
}

// TestPlacePassed holds P21.2 for ticks for which a lower core is passed over, as the ticks that are still missing are available with a higher one only.
func TestPlacePassed(t *testing.T) {
	// The last tick finds the core 0 alone.
	p := planOf(4, 7, split(1, 2, at(1, 3), at(2, 0)), whole(7, 3, 0), whole(8, 3, 2))
	placeIs(t, p, wantOf(2, 4), at(0, 3), at(1, 0, 1, 2))
	// With one tick fewer it is needed no more.
	placeIs(t, with(p, whole(9, 1, 1)), wantOf(2, 3), at(0, 0), at(1, 1, 2))
	// The core 0 has room for two: the first tick may have it, the second may not.
	q := planOf(6, 7, split(1, 2, at(1, 5), at(2, 0)), whole(7, 4, 0), whole(8, 5, 2), whole(9, 1, 1))
	placeIs(t, q, wantOf(2, 6), at(0, 0, 5), at(1, 1, 2, 3, 4))
	placeIs(t, q, wantOf(2, 5), at(0, 0, 1), at(1, 2, 3, 4))
	// Two lower cores are passed over, in the middle of the frame too.
	r := planOf(6, 0x8111, split(1, 3, at(8, 4, 5), at(15, 0)), whole(7, 5, 0), whole(8, 5, 4), whole(10, 5, 15))
	placeIs(t, r, wantOf(2, 6), at(0, 4), at(4, 5), at(8, 0, 1, 2, 3))
	placeIs(t, with(r, whole(9, 1, 8)), wantOf(2, 5), at(0, 0), at(4, 4), at(8, 1, 2, 3))
	placeIs(t, with(r, whole(9, 2, 8)), wantOf(2, 4), at(0, 0), at(4, 1), at(8, 2, 3))
}

// TestPlacePieces holds P21.2 for pieces on two cores, on three and on all sixteen, and for whole frames.
func TestPlacePieces(t *testing.T) {
	p := planOf(6, 0b10101, split(1, 5, at(0, 0, 1), at(2, 2, 3, 4)), whole(2, 3, 2), whole(3, 4, 4))
	placeIs(t, p, wantOf(4, 5), at(0, 2, 3, 4), at(4, 0, 1))
	placeIs(t, with(plan.Drop(p, 2), whole(2, 2, 2)), wantOf(4, 6), at(0, 2, 3, 4, 5), at(2, 0), at(4, 1))
	placeIs(t, with(p, whole(5, 2, 0)), wantOf(4, 4), at(0, 2, 3), at(4, 0, 1))
	for _, f := range []int{16, 32, 64} {
		all, ones := []piece(nil), []piece(nil)
		for core := range 16 {
			all = append(all, span(core, core*f/16, (core+1)*f/16))
			ones = append(ones, at(core, core))
		}
		placeIs(t, left(f, even(16, f/16)), wantOf(1, f), all...)
		placeIs(t, left(f, even(16, 1)), wantOf(1, 16), ones...)
		placeIs(t, left(f, even(16, 1)), wantOf(1040, 15), ones[:15]...)
		placeIs(t, filled(stairs(f, 16), even(16, 1)), wantOf(50, 16), ones...)
		placeIs(t, filled(stairs(f, 16), even(16, 1)), wantOf(50, 2), ones[:2]...)
	}
	// The whole frame between windows: of two ticks, and of all that there can be.
	placeIs(t, planOf(2, 7, split(1, 2, at(0, 0), at(1, 1)), whole(2, 1, 2)), wantOf(9, 2), at(0, 1), at(1, 0))
	placeIs(t, stairs(16, 16), wantOf(50, 16), at(0, 0, 15), at(1, 1), at(2, 2), at(3, 3), at(4, 4), at(5, 5), at(6, 6), at(7, 7),
		at(8, 8), at(9, 9), at(10, 10), at(11, 11), at(12, 12), at(13, 13), at(14, 14))
	placeIs(t, planOf(64, 7, split(1, 64, span(0, 0, 32), span(1, 32, 64)), whole(2, 30, 2)), wantOf(9, 64), span(0, 32, 64), span(1, 0, 32))
	placeIs(t, planOf(64, 7, split(1, 64, span(0, 32, 64), span(2, 0, 32)), whole(2, 2, 0), whole(3, 1, 1)), wantOf(9, 64), span(0, 0, 30), span(1, 30, 64))
}

// busy is a plan whose three cores have the rooms 0, 3 and 1; one of its units is split.
func busy() api.Plan {
	return planOf(8, 7, whole(1, 6, 0), split(3, 4, at(0, 0, 1), at(1, 2, 3)), whole(1001, 3, 1), whole(1002, 7, 2))
}

// TestPlaceErrors holds P21.2 for each error alone.
func TestPlaceErrors(t *testing.T) {
	for _, p := range wrongPlans() {
		for share := 1; share <= 8; share++ {
			fails(t, api.ErrPlan, p, wantOf(150, share))
		}
	}
	p := busy()
	placeIs(t, p, wantOf(5, 4), at(1, 0, 1, 4), at(2, 2))
	for _, unit := range append([]int{0, 201, 1000, 1041, 2001}, farNumbers...) {
		fails(t, api.ErrID, p, wantOf(unit, 4))
	}
	for _, share := range append([]int{0, 9, 64, 65}, farNumbers...) {
		fails(t, api.ErrShare, p, wantOf(5, share))
	}
	for _, unit := range []int{1, 3, 1001, 1002} {
		fails(t, api.ErrTwice, p, wantOf(unit, 4))
	}
	fails(t, api.ErrState, p, wantOf(5, 3))
	fails(t, api.ErrState, with(p, split(7, 2, at(1, 4), at(2, 5))), wantOf(5, 3))
	fails(t, api.ErrFull, p, wantOf(5, 5))
	for _, unit := range []int{2, 4, 200, 1003, 1040} {
		placeIs(t, p, wantOf(unit, 4), at(1, 0, 1, 4), at(2, 2))
	}
}

// TestPlacePairs holds P21.2 for errors at once, each pair of them and all more that can be: which one is named.
func TestPlacePairs(t *testing.T) {
	right := busy()
	halved := with(right, split(7, 2, at(1, 4), at(2, 5)))
	wrong, both := with(right, whole(1040, 1, 0)), with(halved, whole(1040, 1, 0))
	errnos := map[int]api.Errno{300: api.ErrID, 0: api.ErrID, 1: api.ErrTwice, 3: api.ErrTwice, 1002: api.ErrTwice, 5: api.OK, 1003: api.OK}
	for unit, e := range errnos {
		for share := -1; share <= 10; share++ {
			w := wantOf(unit, share)
			fails(t, api.ErrPlan, wrong, w)
			fails(t, api.ErrPlan, both, w)
			// Which core has room, how many are split and how much is available comes behind what the want itself is.
			for _, p := range []api.Plan{right, halved} {
				switch {
				case e == api.ErrID:
					fails(t, e, p, w)
				case share < 1 || share > 8:
					fails(t, api.ErrShare, p, w)
				case e == api.ErrTwice:
					fails(t, e, p, w)
				case share <= 3 || plan.Same(p, halved):
					fails(t, api.ErrState, p, w)
				case share > 4:
					fails(t, api.ErrFull, p, w)
				default:
					placeIs(t, p, w, at(1, 0, 1, 4), at(2, 2))
				}
			}
		}
	}
	// In plans that are full, and in such as have one core.
	for _, p := range []api.Plan{planOf(4, 1, whole(7, 4, 0)), planOf(4, 1<<15, whole(7, 1, 15)), planOf(4, 1)} {
		fails(t, api.ErrID, p, wantOf(300, 4))
		fails(t, api.ErrShare, p, wantOf(7, 5))
		fails(t, api.ErrState, p, wantOf(8, 4))
	}
	full := left(4, even(2, 0))
	fails(t, api.ErrID, full, wantOf(300, 0))
	fails(t, api.ErrShare, full, wantOf(101, 0))
	fails(t, api.ErrTwice, full, wantOf(101, 4))
	fails(t, api.ErrFull, full, wantOf(1, 1))
	// A frame that may not be is the plan's error.
	for _, f := range append([]int{0, 1, 65}, farNumbers...) {
		fails(t, api.ErrPlan, planOf(f, 3), wantOf(300, 9))
		fails(t, api.ErrPlan, planOf(f, 3), wantOf(1, 1))
	}
}

// digits are n numbers from 0 to base - 1, another row for each code, and whether there are no more.
func digits(code, base, n int) ([]int, bool) {
	var l []int
	for range n {
		l = append(l, code%base)
		code /= base
	}
	return l, code > 0
}

// TestPlaceSmall holds P21.1 to P21.4 for all windows of a unit on a few cores, or on none, all rooms beside them and all shares, in small frames.
func TestPlaceSmall(t *testing.T) {
	woven := 0
	for _, k := range []struct{ f, n int }{{2, 2}, {3, 2}, {2, 3}, {3, 3}, {4, 3}, {2, 4}} {
		for code := 0; ; code++ {
			cores, over := digits(code, k.n+1, k.f)
			if over {
				break
			}
			var own [16]uint64
			share := 0
			for tick, core := range cores {
				if core < k.n {
					own[core] |= 1 << tick
					share++
				}
			}
			p := planOf(k.f, 1<<k.n-1)
			if share > 0 {
				p = tryPlace(p, split(1, share, piecesOf(own)...))
			}
			woven += checkRooms(t, p, k.n)
		}
	}
	if woven < 1000 {
		t.Error(woven)
	}
}

// checkRooms holds P21.1 to P21.4 for a plan with all rooms that its cores may be left, and tells how many places were woven.
func checkRooms(t *testing.T, p api.Plan, n int) int {
	t.Helper()
	woven := 0
	for code := 0; ; code++ {
		l, over := digits(code, p.Frame+1, n)
		if over {
			return woven
		}
		rooms := map[int]int{}
		for core, room := range l {
			rooms[core] = room
		}
		q := filled(p, rooms)
		checkMost(t, q)
		for share := range p.Frame + 2 {
			if _, e := checkPlace(t, q, wantOf(50, share)); e == api.OK {
				woven++
			}
		}
	}
}

// passes tells whether some tick of a woven place has passed over a lower core that could have it.
func passes(p api.Plan, x place) bool {
	s := stateOf(p)
	for tick := range p.Frame {
		core := coreOf(x, tick)
		for lower := range min(core, 16) {
			if core != noCore && s.may(tick, lower) {
				return true
			}
		}
		if core != noCore {
			s = s.without(core)
		}
	}
	return false
}

// skips tells whether a woven place has a tick unused ahead of its last one.
func skips(p api.Plan, x place) bool {
	have := 0
	for tick := range p.Frame {
		if coreOf(x, tick) != noCore {
			have++
		} else if have < x.Share {
			return true
		}
	}
	return false
}

// TestPlaceAny holds P21.2 and P21.3 for any plans and wants, some of which may not be.
func TestPlaceAny(t *testing.T) {
	rng := rand.New(rand.NewSource(212))
	passed, skipped, pieces, ended := 0, 0, map[int]int{}, map[api.Errno]int{}
	for range 20000 {
		p := somePlan(rng)
		greatest := greatestRoom(p)
		w := wantOf(someUnit(rng), greatest+1+rng.Intn(max(weave.Most(p)-greatest, 0)+1))
		switch rng.Intn(16) {
		case 0:
			w.Share = rng.Intn(p.Frame + 3)
		case 1:
			w.Unit += []int{-1, 1, -1000, 1000}[rng.Intn(4)]
		case 2:
			w.Unit = 1
			p = tryPlace(p, whole(1, 1, 0))
		case 3:
			p.Cores ^= 1 << rng.Intn(17)
		}
		x, e := checkPlace(t, p, w)
		ended[e]++
		pieces[len(x.Pieces)]++
		if passes(p, x) {
			passed++
		}
		if skips(p, x) {
			skipped++
		}
	}
	if passed < 100 || skipped < 300 || pieces[1] > 0 {
		t.Error(passed, skipped, pieces)
	}
	for n := 2; n <= 10; n++ {
		if pieces[n] < 20 {
			t.Error(pieces)
		}
	}
	for _, e := range []api.Errno{api.OK, api.ErrPlan, api.ErrID, api.ErrShare, api.ErrTwice, api.ErrState, api.ErrFull} {
		if ended[e] < 100 {
			t.Error(ended)
		}
	}
}

// roomy is a plan whose places and pieces have spare capacity, in which something stands.
func roomy(p api.Plan) api.Plan {
	q := deep(p)
	q.Places = append(q.Places, whole(77, 77, 77), whole(78, 78, 78))[:len(p.Places)]
	for i, x := range q.Places {
		q.Places[i].Pieces = append(x.Pieces, at(79, 1), at(80, 2))[:len(x.Pieces)]
	}
	return q
}

// stretched is a plan whose spare capacity is part of it.
func stretched(p api.Plan) api.Plan {
	p.Places = slices.Clone(p.Places[:cap(p.Places)])
	for i, x := range p.Places {
		p.Places[i].Pieces = slices.Clone(x.Pieces[:cap(x.Pieces)])
	}
	return p
}

// spoil changes all of a plan's memory, its spare capacity too.
func spoil(p api.Plan) {
	for i, x := range p.Places[:cap(p.Places)] {
		for j := range x.Pieces[:cap(x.Pieces)] {
			x.Pieces[:cap(x.Pieces)][j] = piece{Core: 91, Ticks: 92}
		}
		p.Places[:cap(p.Places)][i] = whole(93, 94, 95)
	}
}

// TestPlaceMemory holds that no argument is changed or kept, and that results are memory of their own, beside errors too.
func TestPlaceMemory(t *testing.T) {
	for _, k := range []struct {
		p api.Plan
		w want
	}{
		{busy(), wantOf(5, 4)}, {busy(), wantOf(1040, 4)}, {busy(), wantOf(5, 5)}, {busy(), wantOf(5, 3)}, {busy(), wantOf(3, 4)}, {busy(), wantOf(5, 9)}, {busy(), wantOf(300, 4)},
		{left(64, even(16, 4)), wantOf(1, 64)}, {filled(stairs(16, 16), even(16, 1)), wantOf(50, 16)}, {planOf(8, 3, whole(1, 9, 0)), wantOf(2, 3)},
	} {
		p, right := roomy(k.p), place{}
		if errorOf(k.p, k.w) == api.OK {
			right = placeOf(k.p, k.w)
		}
		args := stretched(p)
		got, _ := weave.Place(p, k.w)
		other, _ := weave.Place(p, k.w)
		spoil(api.Plan{Places: []place{got}})
		if !samePlan(stretched(p), args) {
			t.Errorf("Place(%v, %v) shares memory: %v", k.p, k.w, p)
		}
		if later, _ := weave.Place(p, k.w); !plan.SamePlace(other, right) || !plan.SamePlace(later, right) {
			t.Errorf("Place(%v, %v) shares memory with another: %v, %v", k.p, k.w, other, later)
		}
		spoil(p)
		if !plan.SamePlace(other, right) {
			t.Errorf("Place(%v, %v) keeps arguments: %v", k.p, k.w, other)
		}
	}
}
