package chain_test

import (
	"math"
	"math/bits"
	"math/rand"
	"reflect"
	"slices"
	"testing"

	"dogwatch/api"
	"dogwatch/chain"
	"dogwatch/plan"
)

type (
	want  = api.Want
	piece = api.Piece
	place = api.Place
)

// farNumbers are no ticks of a frame, units, shares or cores; some of them are one in their lowest bits.
var farNumbers = []int{
	math.MinInt, math.MinInt + 1, math.MinInt + 4, -1 << 32, -1<<32 + 1, -1000, -65, -64, -17, -16, -2, -1,
	1 << 16, 1 << 32, 1<<32 + 1, 1<<32 + 4, 1<<40 + 2, math.MaxInt - 1, math.MaxInt,
}

func wantOf(unit, share int) want { return want{Unit: unit, Share: share} }

func whole(unit, share, core int) place { return place{Unit: unit, Share: share, Core: core} }

func split(unit, share int, pieces ...piece) place {
	return place{Unit: unit, Share: share, Pieces: pieces}
}

// at is a piece of these ticks.
func at(core int, ticks ...int) piece {
	y := piece{Core: core}
	for _, tick := range ticks {
		y.Ticks |= 1 << tick
	}
	return y
}

func planOf(f int, cores uint32, places ...place) api.Plan {
	return api.Plan{Frame: f, Cores: cores, Places: places}
}

// left is a plan in which these cores, and no others, have these rooms: on each a unit from 101 on is whole and has the rest of the frame.
func left(f int, rooms map[int]int) api.Plan {
	p := planOf(f, 0)
	for core := range 16 {
		room, ok := rooms[core]
		if !ok {
			continue
		}
		p.Cores |= 1 << core
		if room < f {
			p.Places = append(p.Places, whole(101+core, f-room, core))
		}
	}
	return p
}

// piecesOf are the pieces of a unit that has these ticks on the cores from 0 on.
func piecesOf(own [16]uint64) []piece {
	var pieces []piece
	for core, ticks := range own {
		if ticks != 0 {
			pieces = append(pieces, piece{Core: core, Ticks: ticks})
		}
	}
	return pieces
}

// deep is a plan that shares no memory with another one; what is empty is nil.
func deep(p api.Plan) api.Plan {
	var places []place
	for _, x := range p.Places {
		x.Pieces = append([]piece(nil), x.Pieces...)
		places = append(places, x)
	}
	p.Places = places
	return p
}

func samePlan(a, b api.Plan) bool { return reflect.DeepEqual(deep(a), deep(b)) }

// roomOf is a core's room by the document's words, 0 for one that the plan lacks.
func roomOf(p api.Plan, core int) int {
	if p.Cores>>core%2 == 0 {
		return 0
	}
	room := p.Frame
	for _, x := range p.Places {
		if len(x.Pieces) == 0 && x.Core == core {
			room -= x.Share
		}
		for _, y := range x.Pieces {
			if y.Core == core {
				room -= bits.OnesCount64(y.Ticks)
			}
		}
	}
	return room
}

// freeOf is the sum of all rooms.
func freeOf(p api.Plan) int {
	free := 0
	for core := range 16 {
		free += roomOf(p, core)
	}
	return free
}

// checkRooms holds P19.1 for any plan.
func checkRooms(t *testing.T, p api.Plan) []int {
	t.Helper()
	var right []int
	if plan.Check(p) == api.OK {
		for core := range 16 {
			right = append(right, roomOf(p, core))
		}
	}
	before := deep(p)
	got := chain.Rooms(p)
	if !slices.Equal(got, right) {
		t.Errorf("Rooms(%v): %v; want %v", p, got, right)
	}
	if !samePlan(p, before) {
		t.Errorf("Rooms(%v) left %v", before, p)
	}
	return got
}

// roomsAre holds Rooms, and the model too, against the rooms that a test names; all others are 0.
func roomsAre(t *testing.T, p api.Plan, rooms map[int]int) {
	t.Helper()
	if plan.Check(p) != api.OK {
		t.Fatalf("%v is not right", p)
	}
	right := make([]int, 16)
	for core, room := range rooms {
		right[core] = room
	}
	if got := checkRooms(t, p); !slices.Equal(got, right) {
		t.Errorf("Rooms(%v): %v; want %v", p, got, right)
	}
}

// TestExamples holds the examples of the chapter, and those of the document's that place along the chain.
func TestExamples(t *testing.T) {
	p := left(4, map[int]int{0: 2, 1: 2, 2: 2})
	q := splitIs(t, p, []want{wantOf(4, 3), wantOf(5, 3)}, split(4, 3, at(0, 0, 1), at(1, 2)), split(5, 3, at(1, 3), at(2, 0, 1)))
	fails(t, api.ErrState, q, wantOf(6, 1))
	fails(t, api.ErrFull, p, wantOf(4, 4), wantOf(5, 3))
	splitIs(t, planOf(4, 3, whole(1, 3, 0), whole(2, 3, 1)), []want{wantOf(3, 2)}, split(3, 2, at(0, 0), at(1, 1)))
	splitIs(t, planOf(10, 7, whole(1, 6, 0), whole(2, 6, 1), whole(3, 6, 2)), []want{wantOf(4, 6), wantOf(5, 6)},
		split(4, 6, at(0, 0, 1, 2, 3), at(1, 4, 5)), split(5, 6, at(1, 6, 7), at(2, 8, 9, 0, 1)))
}

// TestRooms holds P19.1 for cores that are next to each other and such that are not, full ones among them.
func TestRooms(t *testing.T) {
	roomsAre(t, planOf(8, 3), map[int]int{0: 8, 1: 8})
	roomsAre(t, planOf(8, 7, whole(1, 3, 1), whole(2, 8, 2), whole(200, 4, 1)), map[int]int{0: 8, 1: 1})
	roomsAre(t, planOf(8, 7, whole(1, 8, 0), whole(2, 1, 2), whole(1040, 1, 2)), map[int]int{1: 8, 2: 6})
	roomsAre(t, planOf(10, 1<<2|1<<4|1<<7|1<<15, whole(1, 6, 2), whole(4, 8, 4), whole(200, 4, 2), whole(1001, 5, 7)), map[int]int{4: 2, 7: 5, 15: 10})
	roomsAre(t, planOf(2, 0x8001, whole(5, 1, 15)), map[int]int{0: 2, 15: 1})
	roomsAre(t, planOf(64, 0x8001, whole(5, 1, 0), whole(1001, 62, 15)), map[int]int{0: 63, 15: 2})
	roomsAre(t, planOf(64, 0b1010, whole(5, 64, 1), whole(7, 64, 3)), nil)
}

// TestRoomsOne holds P19.1 for one core, each of the sixteen: empty, with some room, and full.
func TestRoomsOne(t *testing.T) {
	for core := range 16 {
		for _, f := range []int{2, 8, 64} {
			roomsAre(t, planOf(f, 1<<core), map[int]int{core: f})
			roomsAre(t, planOf(f, 1<<core, whole(7, 1, core)), map[int]int{core: f - 1})
			roomsAre(t, planOf(f, 1<<core, whole(7, f-1, core)), map[int]int{core: 1})
			roomsAre(t, planOf(f, 1<<core, whole(7, f-1, core), whole(1007, 1, core)), nil)
		}
	}
}

// TestRoomsAll holds P19.1 for all sixteen cores, each of another room.
func TestRoomsAll(t *testing.T) {
	p, rooms := planOf(64, 0xffff), map[int]int{}
	for core := range 16 {
		rooms[core] = 64
	}
	roomsAre(t, p, rooms)
	for core := range 16 {
		p.Places = append(p.Places, whole(10+core, 64-4*core, core))
		rooms[core] = 4 * core
		roomsAre(t, p, rooms)
	}
	for core := range 16 {
		p.Places[core].Share = 64
		rooms[core] = 0
		roomsAre(t, p, rooms)
	}
}

// TestRoomsWindows holds P19.1 for cores that have lost room to windows; split units have the Core 0, and are not whole there.
func TestRoomsWindows(t *testing.T) {
	p := planOf(6, 0b1011, split(1, 6, at(0, 0, 1, 2, 3), at(1, 4, 5)), split(2, 4, at(0, 5), at(1, 0, 1, 2)), whole(3, 3, 3))
	roomsAre(t, p, map[int]int{0: 1, 1: 1, 3: 3})
	roomsAre(t, plan.Put(p, whole(9, 1, 0)), map[int]int{1: 1, 3: 3})
	roomsAre(t, plan.Put(p, whole(1009, 1, 1)), map[int]int{0: 1, 3: 3})
	// The core 0 has no window, though two units are split, or is not in the plan.
	roomsAre(t, planOf(4, 0b1111, split(5, 4, at(1, 0, 1), at(2, 2, 3)), split(6, 3, at(2, 0), at(3, 1, 2))), map[int]int{0: 4, 1: 2, 2: 1, 3: 2})
	roomsAre(t, planOf(4, 0b1110, split(5, 4, at(1, 0, 1), at(2, 2, 3)), split(6, 3, at(2, 0), at(3, 1, 2))), map[int]int{1: 2, 2: 1, 3: 2})
	// All ticks of a core are windows.
	roomsAre(t, planOf(64, 3, split(1, 64, piece{Core: 0, Ticks: math.MaxUint64 &^ 1}, at(1, 0)), whole(2, 1, 0)), map[int]int{1: 63})
	roomsAre(t, planOf(2, 0x8001, split(1, 2, at(0, 0), at(15, 1))), map[int]int{0: 1, 15: 1})
}

// wrongPlans are plans each of which breaks one condition of chapter 16, but for the zero one; all have much room.
func wrongPlans() []api.Plan {
	half := split(3, 4, at(0, 0, 1), at(1, 2, 3))
	l := []api.Plan{
		{},
		planOf(8, 0), planOf(8, 1<<16), planOf(8, 1<<16|3), planOf(8, 1<<31|3), planOf(8, math.MaxUint32),
		planOf(8, 3, whole(2, 1, 0), whole(1, 1, 0)), planOf(8, 3, whole(2, 1, 0), whole(2, 1, 1)), planOf(8, 7, half, half),
		planOf(8, 3, whole(1, 1, 2)), planOf(8, 1<<15, whole(1, 1, 0)), planOf(8, 3, whole(1, 1, -1)), planOf(8, 3, whole(1, 1, 16)),
		planOf(8, 3, whole(1, 0, 0)), planOf(8, 3, whole(1, -1, 0)), planOf(8, 3, whole(1, 9, 0)),
		planOf(8, 7, whole(1, 4, 0), whole(2, 5, 0)), planOf(8, 7, whole(1, 7, 0), half),
		planOf(8, 7, split(3, 2, at(0, 0, 1))), planOf(8, 7, split(3, 4, at(1, 2, 3), at(0, 0, 1))), planOf(8, 7, split(3, 4, at(0, 0, 1), at(0, 2, 3))),
		planOf(8, 7, split(3, 2, at(0, 0, 1), at(1))), planOf(8, 7, split(3, 4, at(0, 0, 1), at(1, 2, 8))), planOf(8, 7, split(3, 4, at(0, 0, 1), at(3, 2, 3))),
		planOf(8, 7, split(3, 4, at(0, 0, 1), at(1, 1, 3))), planOf(8, 7, split(3, 3, at(0, 0, 1), at(1, 1, 3))),
		planOf(8, 7, split(3, 3, at(0, 0, 1), at(1, 2, 3))), planOf(8, 7, split(3, 5, at(0, 0, 1), at(1, 2, 3))),
		planOf(8, 7, place{Unit: 3, Share: 4, Core: 1, Pieces: half.Pieces}),
		planOf(8, 7, half, split(4, 2, at(0, 1), at(1, 0))),
		planOf(8, 3, half, split(4, 2, at(0, 7), at(1, 6))),
		planOf(8, 1, split(3, 2, at(0, 0), at(0, 1))),
	}
	for _, f := range append([]int{0, 1, 65, 66, 128}, farNumbers...) {
		l = append(l, planOf(f, 3), planOf(f, 3, whole(1, 1, 0)))
	}
	for _, unit := range append([]int{0, 201, 1000, 1041}, farNumbers...) {
		l = append(l, planOf(8, 3, whole(unit, 1, 0)))
	}
	return l
}

// TestRoomsWrong holds P19.1 for plans that are not valid.
func TestRoomsWrong(t *testing.T) {
	for _, p := range wrongPlans() {
		if plan.Check(p) != api.ErrPlan {
			t.Errorf("%v is right", p)
		}
		if got := checkRooms(t, p); len(got) != 0 {
			t.Errorf("Rooms(%v): %v", p, got)
		}
	}
}

// someUnit is the number of a task or, more seldom, of a group.
func someUnit(rng *rand.Rand) int {
	if rng.Intn(3) == 0 {
		return 1001 + rng.Intn(40)
	}
	return 1 + rng.Intn(200)
}

// somePlan is a right one: places of random units are put where there is room, some of them split if such are asked for.
func somePlan(rng *rand.Rand, splits bool) api.Plan {
	p := planOf(2+rng.Intn(63), uint32(1+rng.Intn(1<<16-1)))
	if rng.Intn(2) == 0 {
		p.Frame = 2 + rng.Intn(7)
	}
	for range rng.Intn(4) {
		if less := p.Cores & uint32(rng.Intn(1<<16)); less != 0 {
			p.Cores = less
		}
	}
	cores := plan.Cores(p)
	for range rng.Intn(30) {
		unit := someUnit(rng)
		x := whole(unit, 1+rng.Intn(p.Frame), cores[rng.Intn(len(cores))])
		if splits && rng.Intn(2) == 0 {
			x = someSplit(rng, p, unit)
		}
		if _, there := plan.Find(p, unit); there {
			continue
		}
		if q := plan.Put(p, x); plan.Check(q) == api.OK {
			p = q
		}
	}
	return p
}

// someSplit takes ticks on cores that have room and no window there. It may have too few pieces for a place.
func someSplit(rng *rand.Rand, p api.Plan, unit int) place {
	x, own, cores := place{Unit: unit}, [16]uint64{}, plan.Cores(p)
	for _, tick := range rng.Perm(p.Frame)[:1+rng.Intn(p.Frame)] {
		core := cores[rng.Intn(len(cores))]
		if bits.OnesCount64(own[core]) < roomOf(p, core) && plan.Windows(p, core)>>tick%2 == 0 {
			own[core] |= 1 << tick
			x.Share++
		}
	}
	x.Pieces = piecesOf(own)
	return x
}

// TestRoomsAny holds P19.1 for any right plans, and for such in which a number was changed.
func TestRoomsAny(t *testing.T) {
	rng := rand.New(rand.NewSource(191))
	splits, wrong := 0, 0
	for range 5000 {
		p := somePlan(rng, true)
		checkRooms(t, p)
		splits += plan.Splits(p)
		if len(p.Places) == 0 {
			continue
		}
		x := &p.Places[rng.Intn(len(p.Places))]
		x.Share += rng.Intn(3) - 1
		x.Core ^= rng.Intn(2)
		checkRooms(t, p)
		if plan.Check(p) != api.OK {
			wrong++
		}
	}
	if splits < 1000 || wrong < 500 {
		t.Error(splits, wrong)
	}
}

// TestRoomsMemory holds that Rooms changes no argument, and that its results are memory of their own.
func TestRoomsMemory(t *testing.T) {
	p := roomy(planOf(6, 0b1011, split(1, 6, at(0, 0, 1, 2, 3), at(1, 4, 5)), whole(3, 3, 3)))
	args, right := stretched(p), []int{2, 4, 0, 3, 0, 0, 0, 0, 0, 0, 0, 0, 0, 0, 0, 0}
	got, other := chain.Rooms(p), chain.Rooms(p)
	for i := range got[:cap(got)] {
		got[:cap(got)][i] = 90
	}
	if !samePlan(stretched(p), args) || !slices.Equal(other, right) {
		t.Errorf("Rooms shares memory: %v, %v", p, other)
	}
	spoil(p)
	if !slices.Equal(other, right) {
		t.Errorf("Rooms keeps arguments: %v", other)
	}
}
