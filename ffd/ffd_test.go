package ffd_test

import (
	"math"
	"math/bits"
	"math/rand"
	"reflect"
	"testing"

	"dogwatch/api"
	"dogwatch/ffd"
	"dogwatch/plan"
)

type (
	want  = api.Want
	piece = api.Piece
	place = api.Place
)

// farNumbers are no ticks of a frame, units, shares or numbers of cores; some of them are one in their lowest bits.
var farNumbers = []int{
	math.MinInt, math.MinInt + 1, math.MinInt + 4, -1 << 32, -1<<32 + 1, -1000, -65, -64, -17, -16, -2, -1,
	1 << 16, 1 << 32, 1<<32 + 1, 1<<32 + 4, 1<<40 + 2, math.MaxInt - 1, math.MaxInt,
}

func wantOf(unit, share int) want { return want{Unit: unit, Share: share} }

func whole(unit, share, core int) place { return place{Unit: unit, Share: share, Core: core} }

func split(unit, share int, pieces ...piece) place {
	return place{Unit: unit, Share: share, Pieces: pieces}
}

// at is a piece of these ticks.
func at(core int, ticks ...int) piece {
	y := piece{Core: core}
	for _, tick := range ticks {
		y.Ticks |= 1 << tick
	}
	return y
}

func planOf(f int, cores uint32, places ...place) api.Plan {
	return api.Plan{Frame: f, Cores: cores, Places: places}
}

// deep is a plan that shares no memory with another one; what is empty is nil.
func deep(p api.Plan) api.Plan {
	var places []place
	for _, x := range p.Places {
		x.Pieces = append([]piece(nil), x.Pieces...)
		places = append(places, x)
	}
	p.Places = places
	return p
}

func samePlan(a, b api.Plan) bool { return reflect.DeepEqual(deep(a), deep(b)) }

// roomOf is a core's room by the document's words, 0 for one that the plan lacks.
func roomOf(p api.Plan, core int) int {
	if core < 0 || core > 15 || p.Cores>>core%2 == 0 {
		return 0
	}
	room := p.Frame
	for _, x := range p.Places {
		if len(x.Pieces) == 0 && x.Core == core {
			room -= x.Share
		}
		for _, y := range x.Pieces {
			if y.Core == core {
				room -= bits.OnesCount64(y.Ticks)
			}
		}
	}
	return room
}

// firstOf is the model of First for a right plan.
func firstOf(p api.Plan, share int) (int, bool) {
	for core := range 16 {
		if share >= 1 && roomOf(p, core) >= share {
			return core, true
		}
	}
	return 0, false
}

// checkFirst holds P18.1 for any plan and share.
func checkFirst(t *testing.T, p api.Plan, share int) {
	t.Helper()
	core, ok := 0, false
	if plan.Check(p) == api.OK {
		core, ok = firstOf(p, share)
	}
	before := deep(p)
	if got, there := ffd.First(p, share); got != core || there != ok {
		t.Errorf("First(%v, %d): %d, %v; want %d, %v", p, share, got, there, core, ok)
	}
	if !samePlan(p, before) {
		t.Errorf("First(%v, %d) left %v", before, share, p)
	}
}

// firstIs holds First, and the model too, against a core that a test names, or against none.
func firstIs(t *testing.T, p api.Plan, share, core int, ok bool) {
	t.Helper()
	if plan.Check(p) != api.OK {
		t.Fatalf("%v is not right", p)
	}
	if got, there := firstOf(p, share); got != core || there != ok {
		t.Errorf("the model of %v, %d: %d, %v", p, share, got, there)
	}
	checkFirst(t, p, share)
}

// TestExamples holds the examples of the chapter.
func TestExamples(t *testing.T) {
	l := []want{wantOf(1, 3), wantOf(2, 3), wantOf(3, 2), wantOf(4, 1)}
	p := fitIs(t, planOf(4, 5), l, []want{wantOf(3, 2)}, whole(1, 3, 0), whole(2, 3, 2), whole(4, 1, 0))
	firstIs(t, p, 1, 2, true)
	fails(t, api.ErrTwice, p, wantOf(1, 3))
	sureIs(t, true, 8, 2, wantOf(1, 4), wantOf(2, 4), wantOf(3, 4))
	sureIs(t, false, 4, 2, wantOf(1, 3), wantOf(2, 3), wantOf(3, 2))
}

// stairs is a plan whose cores 2, 4, 7 and 15 have the rooms 0, 2, 5 and 10.
func stairs() api.Plan {
	return planOf(10, 1<<2|1<<4|1<<7|1<<15, whole(1, 6, 2), whole(4, 8, 4), whole(200, 4, 2), whole(1001, 5, 7))
}

// TestFirst holds P18.1 for cores that a test names: the exact room of each core, and one more.
func TestFirst(t *testing.T) {
	for share := 1; share <= 10; share++ {
		core := 15
		if share <= 2 {
			core = 4
		} else if share <= 5 {
			core = 7
		}
		firstIs(t, stairs(), share, core, true)
	}
	firstIs(t, stairs(), 11, 0, false)
	// The core that has the most room is not the first, and not the one that it fits best.
	p := planOf(10, 0b111, whole(1, 4, 0), whole(2, 7, 2))
	firstIs(t, p, 3, 0, true)
	firstIs(t, p, 6, 0, true)
	firstIs(t, p, 7, 1, true)
	firstIs(t, p, 10, 1, true)
	firstIs(t, p, 11, 0, false)
}

// TestFirstShares holds P18.1 for shares that are none, and those beyond the frame.
func TestFirstShares(t *testing.T) {
	for _, f := range []int{2, 10, 64} {
		for _, cores := range []uint32{1, 1 << 15, 0xffff, 0x8001} {
			p := planOf(f, cores)
			low := bits.TrailingZeros32(cores)
			firstIs(t, p, 1, low, true)
			firstIs(t, p, f-1, low, true)
			firstIs(t, p, f, low, true)
			for _, share := range append([]int{0, f + 1, 65, 128}, farNumbers...) {
				firstIs(t, p, share, 0, false)
			}
		}
	}
	full := planOf(4, 3, whole(1, 4, 0), whole(2, 4, 1))
	for _, share := range append([]int{-3, 0, 1, 2, 4, 5}, farNumbers...) {
		firstIs(t, full, share, 0, false)
		firstIs(t, stairs(), min(share, 0), 0, false)
	}
}

// TestFirstOne holds P18.1 for one core, each of the sixteen.
func TestFirstOne(t *testing.T) {
	for core := range 16 {
		p := planOf(8, 1<<core, whole(7, 5, core))
		for share := 1; share <= 3; share++ {
			firstIs(t, p, share, core, true)
		}
		firstIs(t, p, 4, 0, false)
		firstIs(t, p, 8, 0, false)
		firstIs(t, planOf(64, 1<<core), 64, core, true)
	}
}

// TestFirstAll holds P18.1 for all sixteen cores, of which the lowest are full.
func TestFirstAll(t *testing.T) {
	p := planOf(64, 0xffff)
	for core := range 16 {
		firstIs(t, p, 1, core, true)
		firstIs(t, p, 64, core, true)
		p.Places = append(p.Places, whole(core+1, 64, core))
	}
	firstIs(t, p, 1, 0, false)
	firstIs(t, p, 64, 0, false)
	// A tick less than full on each core, and on one of them two.
	for i := range p.Places {
		p.Places[i].Share = 63
	}
	for i := range p.Places {
		p.Places[i].Share = 62
		firstIs(t, p, 1, 0, true)
		firstIs(t, p, 2, i, true)
		firstIs(t, p, 3, 0, false)
		p.Places[i].Share = 63
	}
}

// TestFirstWindows holds P18.1 for cores that have lost room to windows; split units have the Core 0, and are not whole there.
func TestFirstWindows(t *testing.T) {
	p := planOf(6, 0b1011, split(1, 6, at(0, 0, 1, 2, 3), at(1, 4, 5)), split(2, 4, at(0, 5), at(1, 0, 1, 2)), whole(3, 3, 3))
	firstIs(t, p, 1, 0, true)
	firstIs(t, p, 2, 3, true)
	firstIs(t, p, 3, 3, true)
	firstIs(t, p, 4, 0, false)
	p = plan.Put(p, whole(9, 1, 0))
	firstIs(t, p, 1, 1, true)
	p = plan.Put(p, whole(1009, 1, 1))
	firstIs(t, p, 1, 3, true)
	p = plan.Put(p, whole(10, 3, 3))
	firstIs(t, p, 1, 0, false)
	// The core 0 has no window, though two units are split.
	p = planOf(4, 0b1111, split(5, 4, at(1, 0, 1), at(2, 2, 3)), split(6, 3, at(2, 0), at(3, 1, 2)))
	firstIs(t, p, 4, 0, true)
	firstIs(t, plan.Put(p, whole(7, 4, 0)), 2, 1, true)
	firstIs(t, plan.Put(p, whole(7, 4, 0)), 3, 0, false)
	// All ticks of a core are windows.
	p = planOf(64, 3, split(1, 64, piece{Core: 0, Ticks: math.MaxUint64 &^ 1}, at(1, 0)), whole(2, 1, 0))
	firstIs(t, p, 1, 1, true)
	firstIs(t, p, 63, 1, true)
	firstIs(t, p, 64, 0, false)
}

// wrongPlans are plans each of which breaks one condition of chapter 16, but for the zero one; all have much room.
func wrongPlans() []api.Plan {
	half := split(3, 4, at(0, 0, 1), at(1, 2, 3))
	l := []api.Plan{
		{},
		planOf(8, 0), planOf(8, 1<<16), planOf(8, 1<<16|3), planOf(8, 1<<31|3), planOf(8, math.MaxUint32),
		planOf(8, 3, whole(2, 1, 0), whole(1, 1, 0)), planOf(8, 3, whole(2, 1, 0), whole(2, 1, 1)), planOf(8, 3, half, half),
		planOf(8, 3, whole(1, 1, 2)), planOf(8, 1<<15, whole(1, 1, 0)), planOf(8, 3, whole(1, 1, -1)), planOf(8, 3, whole(1, 1, 16)),
		planOf(8, 3, whole(1, 0, 0)), planOf(8, 3, whole(1, -1, 0)), planOf(8, 3, whole(1, 9, 0)),
		planOf(8, 7, whole(1, 4, 0), whole(2, 5, 0)), planOf(8, 7, whole(1, 7, 0), half),
		planOf(8, 7, split(3, 2, at(0, 0, 1))), planOf(8, 7, split(3, 4, at(1, 2, 3), at(0, 0, 1))), planOf(8, 7, split(3, 4, at(0, 0, 1), at(0, 2, 3))),
		planOf(8, 7, split(3, 2, at(0, 0, 1), at(1))), planOf(8, 7, split(3, 4, at(0, 0, 1), at(1, 2, 8))), planOf(8, 7, split(3, 4, at(0, 0, 1), at(3, 2, 3))),
		planOf(8, 7, split(3, 3, at(0, 0, 1), at(1, 1, 3))), planOf(8, 7, split(3, 3, at(0, 0, 1), at(1, 2, 3))), planOf(8, 7, split(3, 5, at(0, 0, 1), at(1, 2, 3))),
		planOf(8, 7, place{Unit: 3, Share: 4, Core: 1, Pieces: half.Pieces}),
		planOf(8, 7, half, split(4, 2, at(0, 1), at(1, 0))),
		planOf(8, 3, half, split(4, 2, at(0, 7), at(1, 6))),
		planOf(8, 1, split(3, 2, at(0, 0), at(0, 1))),
	}
	for _, f := range append([]int{0, 1, 65, 66, 128}, farNumbers...) {
		l = append(l, planOf(f, 3), planOf(f, 3, whole(1, 1, 0)))
	}
	for _, unit := range append([]int{0, 201, 1000, 1041}, farNumbers...) {
		l = append(l, planOf(8, 3, whole(unit, 1, 0)))
	}
	return l
}

// TestFirstWrong holds P18.1 for plans that are not valid.
func TestFirstWrong(t *testing.T) {
	for _, p := range wrongPlans() {
		if plan.Check(p) != api.ErrPlan {
			t.Errorf("%v is right", p)
		}
		for _, share := range append([]int{0, 1, 2, 8, 64}, farNumbers...) {
			if core, ok := ffd.First(p, share); core != 0 || ok {
				t.Errorf("First(%v, %d): %d, %v", p, share, core, ok)
			}
			checkFirst(t, p, share)
		}
	}
}

// someUnit is the number of a task or, more seldom, of a group.
func someUnit(rng *rand.Rand) int {
	if rng.Intn(3) == 0 {
		return 1001 + rng.Intn(40)
	}
	return 1 + rng.Intn(200)
}

// somePlan is a right one: places of random units are put where there is room.
func somePlan(rng *rand.Rand) api.Plan {
	p := planOf(2+rng.Intn(63), uint32(1+rng.Intn(1<<16-1)))
	if rng.Intn(2) == 0 {
		p.Frame = 2 + rng.Intn(7)
	}
	for range rng.Intn(4) {
		if less := p.Cores & uint32(rng.Intn(1<<16)); less != 0 {
			p.Cores = less
		}
	}
	for range rng.Intn(30) {
		unit := someUnit(rng)
		x := whole(unit, 1+rng.Intn(p.Frame), plan.Cores(p)[rng.Intn(len(plan.Cores(p)))])
		if rng.Intn(2) == 0 {
			x = someSplit(rng, p, unit)
		}
		if _, there := plan.Find(p, unit); there {
			continue
		}
		if q := plan.Put(p, x); plan.Check(q) == api.OK {
			p = q
		}
	}
	return p
}

// someSplit takes ticks on cores that have room and no window there. It may have too few pieces for a place.
func someSplit(rng *rand.Rand, p api.Plan, unit int) place {
	x, own := place{Unit: unit}, [16]uint64{}
	for _, tick := range rng.Perm(p.Frame)[:1+rng.Intn(p.Frame)] {
		core := plan.Cores(p)[rng.Intn(len(plan.Cores(p)))]
		if bits.OnesCount64(own[core]) < roomOf(p, core) && plan.Windows(p, core)>>tick%2 == 0 {
			own[core] |= 1 << tick
			x.Share++
		}
	}
	for core, ticks := range own {
		if ticks != 0 {
			x.Pieces = append(x.Pieces, piece{Core: core, Ticks: ticks})
		}
	}
	if len(x.Pieces) == 1 {
		return whole(unit, x.Share, x.Pieces[0].Core)
	}
	return x
}

// TestFirstAny holds P18.1 for any right plans, and for such in which a number was changed.
func TestFirstAny(t *testing.T) {
	rng := rand.New(rand.NewSource(181))
	none, later, splits, wrong := 0, 0, 0, 0
	for range 3000 {
		p := somePlan(rng)
		for share := -1; share <= p.Frame+1; share++ {
			checkFirst(t, p, share)
		}
		if core, ok := firstOf(p, 1); !ok {
			none++
		} else if core > bits.TrailingZeros32(p.Cores) {
			later++
		}
		splits += plan.Splits(p)
		if len(p.Places) == 0 {
			continue
		}
		x := &p.Places[rng.Intn(len(p.Places))]
		x.Share += rng.Intn(3) - 1
		x.Core ^= rng.Intn(2)
		checkFirst(t, p, 1+rng.Intn(p.Frame))
		if plan.Check(p) != api.OK {
			wrong++
		}
	}
	if none < 100 || later < 100 || splits < 1000 || wrong < 500 {
		t.Error(none, later, splits, wrong)
	}
}
