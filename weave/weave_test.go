package weave_test

import (
	"math"
	"math/bits"
	"math/rand"
	"reflect"
	"slices"
	"testing"

	"dogwatch/api"
	"dogwatch/plan"
	"dogwatch/weave"
)

type (
	want  = api.Want
	piece = api.Piece
	place = api.Place
)

// farNumbers are no ticks of a frame, units, shares or cores; some of them are one in their lowest bits.
var farNumbers = []int{
	math.MinInt, math.MinInt + 1, math.MinInt + 4, -1 << 32, -1<<32 + 1, -1000, -65, -64, -17, -16, -2, -1,
	1 << 16, 1 << 32, 1<<32 + 1, 1<<32 + 4, 1<<40 + 2, math.MaxInt - 1, math.MaxInt,
}

func wantOf(unit, share int) want { return want{Unit: unit, Share: share} }

func whole(unit, share, core int) place { return place{Unit: unit, Share: share, Core: core} }

func split(unit, share int, pieces ...piece) place {
	return place{Unit: unit, Share: share, Pieces: pieces}
}

// at is a piece of these ticks.
func at(core int, ticks ...int) piece {
	y := piece{Core: core}
	for _, tick := range ticks {
		y.Ticks |= 1 << tick
	}
	return y
}

// span is a piece of the ticks from one to ahead of another.
func span(core, from, to int) piece {
	y := piece{Core: core}
	for tick := from; tick < to; tick++ {
		y.Ticks |= 1 << tick
	}
	return y
}

func planOf(f int, cores uint32, places ...place) api.Plan {
	return api.Plan{Frame: f, Cores: cores, Places: places}
}

// with is a plan with further places, in the order of their units.
func with(p api.Plan, places ...place) api.Plan {
	p = deep(p)
	p.Places = append(p.Places, places...)
	slices.SortFunc(p.Places, func(a, b place) int { return a.Unit - b.Unit })
	return p
}

// left is a plan in which these cores, and no others, have these rooms: on each a unit from 101 on is whole and has the rest of the frame.
func left(f int, rooms map[int]int) api.Plan {
	p := planOf(f, 0)
	for core := range rooms {
		p.Cores |= 1 << core
	}
	return filled(p, rooms)
}

// filled is a plan in which these cores have been left these rooms: what was more a unit from 101 on has, whole.
func filled(p api.Plan, rooms map[int]int) api.Plan {
	for core := range 16 {
		room, ok := rooms[core]
		if less := roomOf(p, core) - room; ok && less > 0 {
			p = with(p, whole(101+core, less, core))
		}
	}
	return p
}

// stairs is a plan of the cores from 0 to ahead of n in which each tick is a gap of two of them alone: of the one of its own number, and of the next, cyclically.
func stairs(f, n int) api.Plan {
	p := planOf(f, 1<<n-1)
	for unit := 1; unit <= n-2; unit++ {
		var own [16]uint64
		for tick := range f {
			own[(tick+1+unit)%n] |= 1 << tick
		}
		p.Places = append(p.Places, split(unit, f, piecesOf(own)...))
	}
	return p
}

// even is the same room for each of the cores from 0 to ahead of n.
func even(n, room int) map[int]int {
	rooms := map[int]int{}
	for core := range n {
		rooms[core] = room
	}
	return rooms
}

// piecesOf are the pieces of a unit that has these ticks on the cores from 0 on.
func piecesOf(own [16]uint64) []piece {
	var pieces []piece
	for core, ticks := range own {
		if ticks != 0 {
			pieces = append(pieces, piece{Core: core, Ticks: ticks})
		}
	}
	return pieces
}

// deep is a plan that shares no memory with another one; what is empty is nil.
func deep(p api.Plan) api.Plan {
	var places []place
	for _, x := range p.Places {
		x.Pieces = append([]piece(nil), x.Pieces...)
		places = append(places, x)
	}
	p.Places = places
	return p
}

func samePlan(a, b api.Plan) bool { return reflect.DeepEqual(deep(a), deep(b)) }

// roomOf is a core's room by the document's words, 0 for one that the plan lacks.
func roomOf(p api.Plan, core int) int {
	if p.Cores>>core%2 == 0 {
		return 0
	}
	room := p.Frame
	for _, x := range p.Places {
		if len(x.Pieces) == 0 && x.Core == core {
			room -= x.Share
		}
		for _, y := range x.Pieces {
			if y.Core == core {
				room -= bits.OnesCount64(y.Ticks)
			}
		}
	}
	return room
}

// greatestRoom is that of the core that has the most.
func greatestRoom(p api.Plan) int {
	greatest := 0
	for core := range 16 {
		greatest = max(greatest, roomOf(p, core))
	}
	return greatest
}

// gapsOf are a core's gaps by the document's words, none of one that the plan lacks.
func gapsOf(p api.Plan, core int) uint64 {
	if p.Cores>>core%2 == 0 {
		return 0
	}
	gaps := uint64(math.MaxUint64) >> (64 - p.Frame)
	for _, x := range p.Places {
		for _, y := range x.Pieces {
			if y.Core == core {
				gaps &^= y.Ticks
			}
		}
	}
	return gaps
}

// state is what is left of each core while ticks are assigned.
type state struct {
	frame int
	gaps  [16]uint64
	rooms [16]int
}

func stateOf(p api.Plan) state {
	s := state{frame: p.Frame}
	for core := range 16 {
		s.gaps[core], s.rooms[core] = gapsOf(p, core), roomOf(p, core)
	}
	return s
}

// may tells whether a tick can be assigned to a core.
func (s state) may(tick, core int) bool { return s.rooms[core] > 0 && s.gaps[core]>>tick%2 == 1 }

// without is what is left when one tick is assigned to a core.
func (s state) without(core int) state {
	s.rooms[core]--
	return s
}

// least is P21.4 for the ticks from one on: the least, over all sets of cores, of the ticks that are a gap of some core of the set plus the rooms of all others.
func (s state) least(from int) int {
	best := 64
	var join func(core int, ticks uint64, rooms int)
	join = func(core int, ticks uint64, rooms int) {
		// More cores make it no less.
		if bits.OnesCount64(ticks)+rooms >= best {
			return
		}
		if core == 16 {
			best = bits.OnesCount64(ticks) + rooms
			return
		}
		join(core+1, ticks|s.gaps[core]>>from<<from, rooms)
		join(core+1, ticks, rooms+s.rooms[core])
	}
	join(0, 0, 0)
	return best
}

// mostTried is how many ticks are available from one on by the words of the chapter: each is tried on each core, and on none.
func (s state) mostTried(from int) int {
	if from == s.frame {
		return 0
	}
	best := s.mostTried(from + 1)
	for core := range 16 {
		if s.may(from, core) {
			best = max(best, 1+s.without(core).mostTried(from+1))
		}
	}
	return best
}

// isSmall tells whether all ways to assign the ticks of a plan can be tried.
func isSmall(p api.Plan) bool {
	return p.Frame <= 5 && bits.OnesCount32(p.Cores) <= 4
}

// checkMost holds P21.1 and P21.4 for any plan.
func checkMost(t *testing.T, p api.Plan) int {
	t.Helper()
	right := 0
	if plan.Check(p) == api.OK {
		right = stateOf(p).least(0)
	}
	before := deep(p)
	got := weave.Most(p)
	if got != right {
		t.Errorf("Most(%v): %d; want %d", p, got, right)
	}
	if plan.Check(p) == api.OK && isSmall(p) && got != stateOf(p).mostTried(0) {
		t.Errorf("Most(%v): %d; want %d", p, got, stateOf(p).mostTried(0))
	}
	if !samePlan(p, before) {
		t.Errorf("Most(%v) left %v", before, p)
	}
	return got
}

// mostIs holds Most, and the models too, against the number that a test names.
func mostIs(t *testing.T, p api.Plan, most int) {
	t.Helper()
	if plan.Check(p) != api.OK {
		t.Fatalf("%v is not right", p)
	}
	if got := checkMost(t, p); got != most {
		t.Errorf("Most(%v): %d; want %d", p, got, most)
	}
}

// TestExamples holds the example of the chapter, and the document's fourth one.
func TestExamples(t *testing.T) {
	p := planOf(4, 15, split(1, 4, at(0, 0, 1), at(1, 2, 3)), whole(2, 2, 2), whole(3, 2, 3))
	mostIs(t, p, 4)
	placeIs(t, p, wantOf(4, 3), at(0, 2), at(1, 0, 1))
	fails(t, api.ErrState, p, wantOf(4, 2))
	fails(t, api.ErrTwice, p, wantOf(1, 3))
}

// TestMostNone holds P21.1 for plans without places: all ticks are available.
func TestMostNone(t *testing.T) {
	for f := 2; f <= 64; f++ {
		for _, cores := range []uint32{1, 1 << 7, 1 << 15, 3, 0x8001, 0b1010100, 0xffff} {
			mostIs(t, planOf(f, cores), f)
			mostIs(t, planOf(f, cores, []place{}...), f)
		}
	}
}

// TestMostFull holds P21.1 for plans that have no room, on one core, on some and on all: to whole units, to windows, and to both.
func TestMostFull(t *testing.T) {
	for _, f := range []int{2, 9, 64} {
		for core := range 16 {
			mostIs(t, planOf(f, 1<<core, whole(7, f, core)), 0)
			mostIs(t, planOf(f, 1<<core, whole(7, f-1, core), whole(1007, 1, core)), 0)
		}
		mostIs(t, left(f, even(16, 0)), 0)
		mostIs(t, left(f, map[int]int{3: 0, 15: 0}), 0)
		mostIs(t, filled(stairs(f, 2), even(2, 0)), 0)
	}
	for _, n := range []int{3, 4, 16} {
		mostIs(t, filled(stairs(n, n), even(n, 0)), 0)
		mostIs(t, filled(stairs(64, n), even(n, 0)), 0)
	}
	mostIs(t, planOf(4, 3, whole(1, 3, 0), split(2, 3, at(0, 0), at(1, 1, 2)), whole(1001, 2, 1)), 0)
	// Two cores are all windows, and the third is all a whole unit's.
	mostIs(t, planOf(4, 7, split(1, 4, at(0, 0, 1), at(1, 2, 3)), split(2, 4, at(0, 2, 3), at(1, 0, 1)), whole(3, 4, 2)), 0)
}

// TestMostOne holds P21.1 for one core, each of the sixteen: its room, as there are no windows.
func TestMostOne(t *testing.T) {
	for core := range 16 {
		for _, f := range []int{2, 8, 63, 64} {
			for room := range f + 1 {
				mostIs(t, left(f, map[int]int{core: room}), room)
			}
			mostIs(t, planOf(f, 1<<core, whole(7, 1, core), whole(1040, f-1, core)), 0)
		}
	}
}

// TestMostWhole holds P21.1 for cores without windows: all rooms together, but no more than the frame has ticks.
func TestMostWhole(t *testing.T) {
	mostIs(t, left(8, map[int]int{0: 2, 1: 3}), 5)
	mostIs(t, left(8, map[int]int{0: 4, 1: 4}), 8)
	mostIs(t, left(8, map[int]int{0: 4, 1: 5}), 8)
	mostIs(t, left(8, map[int]int{0: 0, 1: 8}), 8)
	mostIs(t, left(8, map[int]int{2: 0, 3: 7, 9: 0}), 7)
	mostIs(t, left(10, map[int]int{2: 1, 4: 2, 7: 0, 15: 4}), 7)
	mostIs(t, left(2, map[int]int{0: 1, 15: 1}), 2)
	mostIs(t, left(2, map[int]int{0: 1, 7: 0, 15: 0}), 1)
	mostIs(t, left(2, even(16, 1)), 2)
	mostIs(t, left(64, even(16, 1)), 16)
	mostIs(t, left(64, even(16, 3)), 48)
	mostIs(t, left(64, even(16, 4)), 64)
	mostIs(t, left(64, even(16, 64)), 64)
	mostIs(t, left(64, map[int]int{0: 63, 1: 1}), 64)
	mostIs(t, left(64, map[int]int{0: 62, 1: 1}), 63)
}

// TestMostRooms holds P21.1 for cores whose windows leave more ticks than they have room, as a unit is whole there, and for such whose room is as great as their gaps.
func TestMostRooms(t *testing.T) {
	p := planOf(6, 7, split(1, 5, at(0, 0, 1), at(1, 2, 3, 4)))
	for _, k := range []struct {
		rooms map[int]int
		most  int
	}{
		{map[int]int{0: 4, 1: 3, 2: 6}, 6}, {map[int]int{0: 4, 1: 3, 2: 0}, 6}, {map[int]int{0: 4, 1: 0, 2: 0}, 4}, {map[int]int{0: 0, 1: 3, 2: 0}, 3},
		{map[int]int{0: 4, 1: 1, 2: 0}, 5}, {map[int]int{0: 3, 1: 3, 2: 0}, 6}, {map[int]int{0: 2, 1: 3, 2: 0}, 5}, {map[int]int{0: 3, 1: 2, 2: 1}, 6},
		{map[int]int{0: 1, 1: 1, 2: 1}, 3}, {map[int]int{0: 1, 1: 0, 2: 0}, 1}, {map[int]int{0: 0, 1: 1, 2: 1}, 2}, {map[int]int{0: 0, 1: 0, 2: 5}, 5},
	} {
		mostIs(t, filled(p, k.rooms), k.most)
	}
	// A core that is windows up to one tick: that tick is another core's gap as well.
	q := planOf(4, 7, split(3, 4, at(0, 0, 1, 2), at(1, 3)), split(5, 4, at(1, 0, 1, 2), at(2, 3)))
	mostIs(t, q, 4)
	mostIs(t, filled(q, map[int]int{2: 0}), 1)
	mostIs(t, filled(q, map[int]int{2: 1}), 2)
	mostIs(t, filled(q, map[int]int{0: 0, 2: 2}), 2)
	mostIs(t, filled(planOf(64, 3, split(1, 64, span(0, 1, 64), at(1, 0))), map[int]int{1: 10}), 11)
	mostIs(t, filled(planOf(64, 3, split(1, 64, span(0, 1, 64), at(1, 0))), map[int]int{1: 63}), 64)
	mostIs(t, planOf(2, 0x8001, split(1, 2, at(0, 0), at(15, 1))), 2)
	mostIs(t, planOf(2, 0x8001, split(1, 2, at(0, 0), at(15, 1)), whole(2, 1, 0)), 1)
	mostIs(t, planOf(2, 0x8001, split(1, 2, at(0, 1), at(15, 0)), whole(2, 1, 15)), 1)
}

// TestMostSame holds P21.1 for cores whose gaps are the same ticks, so that fewer are available than the rooms together are.
func TestMostSame(t *testing.T) {
	p := planOf(6, 15, split(1, 6, at(0, 0, 1, 2, 3), at(2, 4, 5)), split(2, 5, at(1, 0, 1, 2, 3), at(3, 4)))
	mostIs(t, filled(p, map[int]int{2: 0, 3: 0}), 2)
	mostIs(t, filled(p, map[int]int{0: 1, 1: 1, 2: 0, 3: 0}), 2)
	mostIs(t, filled(p, map[int]int{0: 1, 1: 0, 2: 0, 3: 0}), 1)
	mostIs(t, filled(p, map[int]int{2: 1, 3: 0}), 3)
	mostIs(t, filled(p, map[int]int{2: 3, 3: 1}), 6)
	mostIs(t, filled(p, map[int]int{0: 1, 1: 0, 2: 3, 3: 1}), 5)
	mostIs(t, filled(p, map[int]int{2: 3, 3: 0}), 5)
	// The cores 0 and 4 have the same two ticks, and so have, of the others, the cores 1 and 6 together and the core 5.
	r := planOf(4, 0b1110011, split(11, 4, at(0, 0, 1), at(1, 2, 3)), split(12, 4, at(4, 0, 1), at(5, 2, 3)), split(13, 4, at(1, 0), at(6, 1, 2, 3)))
	mostIs(t, filled(r, map[int]int{1: 0, 5: 0, 6: 0}), 2)
	mostIs(t, filled(r, map[int]int{1: 1, 5: 0, 6: 0}), 3)
	mostIs(t, filled(r, map[int]int{0: 0, 4: 0, 6: 0}), 2)
	mostIs(t, filled(r, map[int]int{0: 0, 4: 0, 6: 1}), 2)
	mostIs(t, filled(r, map[int]int{1: 0, 5: 1, 6: 0}), 3)
	// Fifteen cores have the last fifteen ticks, and the sixteenth has no room.
	q := planOf(64, 0xffff)
	for core := range 15 {
		q.Places = append(q.Places, split(1+core, 50, span(core, 0, 49), at(15, 49+core)))
	}
	mostIs(t, filled(q, map[int]int{15: 0}), 15)
	mostIs(t, filled(q, map[int]int{15: 48}), 63)
	mostIs(t, q, 64)
}

// TestMostOthers holds P21.1 for plans in which ticks must go to a core other than the lowest so that others find one.
func TestMostOthers(t *testing.T) {
	// The last tick finds the core 0 alone, which is the lowest for all.
	mostIs(t, planOf(4, 7, split(1, 2, at(1, 3), at(2, 0)), whole(7, 3, 0), whole(8, 3, 2)), 4)
	// The last two do.
	mostIs(t, planOf(6, 7, split(1, 3, at(1, 4, 5), at(2, 0)), whole(7, 4, 0), whole(8, 5, 2)), 6)
	// Each core's gaps are two ticks: whoever comes last sends all others on.
	for n := 3; n <= 16; n++ {
		for _, f := range []int{n, min(2*n, 64), 64} {
			p := stairs(f, n)
			mostIs(t, p, f)
			mostIs(t, filled(p, even(n, 1)), n)
			for core := range n {
				rooms := even(n, 1)
				rooms[core] = 0
				mostIs(t, filled(p, rooms), n-1)
				rooms[(core+1)%n] = 2
				mostIs(t, filled(p, rooms), n)
			}
		}
	}
	// Two cores have room next to each other, and one between full ones: its own gaps are all that it can take.
	mostIs(t, filled(stairs(8, 8), map[int]int{0: 0, 1: 2, 2: 0, 3: 2, 4: 2, 5: 0, 6: 0, 7: 0}), 5)
	mostIs(t, filled(stairs(8, 8), map[int]int{0: 1, 1: 1, 2: 1, 3: 0, 4: 2, 5: 2, 6: 2, 7: 0}), 7)
}

// wrongPlans are plans each of which breaks one condition of chapter 16, but for the zero one; all have much room.
func wrongPlans() []api.Plan {
	half := split(3, 4, at(0, 0, 1), at(1, 2, 3))
	l := []api.Plan{
		{},
		planOf(8, 0), planOf(8, 1<<16), planOf(8, 1<<16|3), planOf(8, 1<<31|3), planOf(8, math.MaxUint32),
		planOf(8, 3, whole(2, 1, 0), whole(1, 1, 0)), planOf(8, 3, whole(2, 1, 0), whole(2, 1, 1)), planOf(8, 7, half, half),
		planOf(8, 3, whole(1, 1, 2)), planOf(8, 1<<15, whole(1, 1, 0)), planOf(8, 3, whole(1, 1, -1)), planOf(8, 3, whole(1, 1, 16)),
		planOf(8, 3, whole(1, 0, 0)), planOf(8, 3, whole(1, -1, 0)), planOf(8, 3, whole(1, 9, 0)),
		planOf(8, 7, whole(1, 4, 0), whole(2, 5, 0)), planOf(8, 7, whole(1, 7, 0), half),
		planOf(8, 7, split(3, 2, at(0, 0, 1))), planOf(8, 7, split(3, 4, at(1, 2, 3), at(0, 0, 1))), planOf(8, 7, split(3, 4, at(0, 0, 1), at(0, 2, 3))),
		planOf(8, 7, split(3, 2, at(0, 0, 1), at(1))), planOf(8, 7, split(3, 4, at(0, 0, 1), at(1, 2, 8))), planOf(8, 7, split(3, 4, at(0, 0, 1), at(3, 2, 3))),
		planOf(8, 7, split(3, 4, at(0, 0, 1), at(1, 1, 3))), planOf(8, 7, split(3, 3, at(0, 0, 1), at(1, 1, 3))),
		planOf(8, 7, split(3, 3, at(0, 0, 1), at(1, 2, 3))), planOf(8, 7, split(3, 5, at(0, 0, 1), at(1, 2, 3))),
		planOf(8, 7, place{Unit: 3, Share: 4, Core: 1, Pieces: half.Pieces}),
		planOf(8, 7, half, split(4, 2, at(0, 1), at(1, 0))),
		planOf(8, 3, half, split(4, 2, at(0, 7), at(1, 6))),
		planOf(8, 1, split(3, 2, at(0, 0), at(0, 1))),
	}
	for _, f := range append([]int{0, 1, 65, 66, 128}, farNumbers...) {
		l = append(l, planOf(f, 3), planOf(f, 3, whole(1, 1, 0)))
	}
	for _, unit := range append([]int{0, 201, 1000, 1041}, farNumbers...) {
		l = append(l, planOf(8, 3, whole(unit, 1, 0)))
	}
	return l
}

// TestMostWrong holds P21.1 for plans that are not valid.
func TestMostWrong(t *testing.T) {
	for _, p := range wrongPlans() {
		if plan.Check(p) != api.ErrPlan {
			t.Errorf("%v is right", p)
		}
		if got := checkMost(t, p); got != 0 {
			t.Errorf("Most(%v): %d", p, got)
		}
	}
}

// someUnit is the number of a task or, more seldom, of a group.
func someUnit(rng *rand.Rand) int {
	if rng.Intn(3) == 0 {
		return 1001 + rng.Intn(40)
	}
	return 1 + rng.Intn(200)
}

// somePlan is a right one of some frame, some cores and some split places; on most of its cores a unit is whole and leaves some room or none.
func somePlan(rng *rand.Rand) api.Plan {
	p := planOf(2+rng.Intn(63), 0)
	if rng.Intn(2) == 0 {
		p.Frame = 2 + rng.Intn(9)
	}
	cores := rng.Perm(16)[:1+rng.Intn(16)]
	for _, core := range cores {
		p.Cores |= 1 << core
	}
	// Units that have the same ticks each on a core of its own leave these cores the same gaps.
	common := rng.Uint64() | rng.Uint64()
	for i := range rng.Intn(len(cores)) {
		p = tryPlace(p, someSplit(rng, p, someUnit(rng), cores[i], common))
	}
	// Rooms that are small beside the frame leave fewer ticks available than it has.
	most := 1 + rng.Intn(p.Frame)
	for _, core := range cores {
		if rng.Intn(40) > 0 {
			p = tryPlace(p, whole(someUnit(rng), roomOf(p, core)-rng.Intn(most), core))
		}
	}
	return p
}

// tryPlace is a plan with a place, if that may be; else it is as it was.
func tryPlace(p api.Plan, x place) api.Plan {
	if q := with(p, x); plan.Check(q) == api.OK {
		return q
	}
	return p
}

// someSplit takes ticks on cores that have room and no window there: those of a set on one core, and a few others on any cores. It may have too few pieces for a place.
func someSplit(rng *rand.Rand, p api.Plan, unit, first int, ticks uint64) place {
	x, own, cores := place{Unit: unit}, [16]uint64{}, plan.Cores(p)
	for tick := range p.Frame {
		core := first
		if ticks>>tick%2 == 0 {
			core = cores[rng.Intn(len(cores))]
		}
		if bits.OnesCount64(own[core]) < roomOf(p, core) && gapsOf(p, core)>>tick%2 == 1 && rng.Intn(8) > 0 {
			own[core] |= 1 << tick
			x.Share++
		}
	}
	x.Pieces = piecesOf(own)
	return x
}

// TestMostAny holds P21.1 and P21.4 for any right plans, and for such in which a number was changed.
func TestMostAny(t *testing.T) {
	rng := rand.New(rand.NewSource(211))
	splits, fewer, wrong := 0, 0, 0
	for range 10000 {
		p := somePlan(rng)
		most, rooms, ticks := checkMost(t, p), 0, uint64(0)
		for core := range 16 {
			rooms += roomOf(p, core)
			ticks |= gapsOf(p, core)
		}
		// Fewer places are split than there are cores, and each has a tick once, so that each tick is a gap.
		if bits.OnesCount64(ticks) != p.Frame {
			t.Errorf("%v has ticks that are no gap", p)
		}
		splits += plan.Splits(p)
		if most < min(rooms, p.Frame) {
			fewer++
		}
		if len(p.Places) == 0 {
			continue
		}
		x := &p.Places[rng.Intn(len(p.Places))]
		x.Share += rng.Intn(3) - 1
		x.Core ^= rng.Intn(2)
		checkMost(t, p)
		if plan.Check(p) != api.OK {
			wrong++
		}
	}
	if splits < 10000 || fewer < 300 || wrong < 500 {
		t.Error(splits, fewer, wrong)
	}
}

// TestMostMemory holds that Most changes no argument, whatever the plan.
func TestMostMemory(t *testing.T) {
	for _, k := range append(wrongPlans(), planOf(4, 3), filled(stairs(16, 16), even(16, 1)), planOf(6, 0b1011, split(1, 6, at(0, 0, 1, 2, 3), at(1, 4, 5)), whole(3, 3, 3))) {
		p := roomy(k)
		args, most := stretched(p), checkMost(t, k)
		if got := weave.Most(p); got != most || !samePlan(stretched(p), args) {
			t.Errorf("Most(%v): %d; want %d; left %v", k, got, most, p)
		}
		spoil(p)
		if got := weave.Most(k); got != most {
			t.Errorf("Most(%v): %d; want %d", k, got, most)
		}
	}
}
