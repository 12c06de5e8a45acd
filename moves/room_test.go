package moves_test

import (
	"math"
	"math/rand"
	"slices"
	"testing"

	"dogwatch/api"
	"dogwatch/moves"
	"dogwatch/plan"
)

// TestRoomHas holds P23.2 for plans in which a core has the room already: it is the lowest one that has, if no lower one can be emptied.
func TestRoomHas(t *testing.T) {
	for core := range 16 {
		rooms := even(16, 1)
		rooms[core] = 4
		for budget := range 9 {
			// The others have one unit each, which fits nowhere.
			p := left(9, rooms)
			roomIs(t, p, 4, budget, core)
			roomIs(t, p, 2, budget, core)
			roomIs(t, p, 1, budget, 0)
			roomFails(t, api.ErrFull, p, 5, budget)
		}
		for other := core; other < 16; other++ {
			rooms[other] = 4 + other - core
		}
		roomIs(t, left(20, rooms), 4, 0, core)
	}
	for _, f := range []int{2, 9, 64} {
		for core := range 16 {
			roomIs(t, planOf(f, 1<<core), f, 0, core)
			roomIs(t, planOf(f, 0xffff), f, 8, 0)
			roomIs(t, planOf(f, 1<<core|1<<15), 1, 0, core)
			roomFails(t, api.ErrFull, planOf(f, 1<<core, whole(1, 1, core)), f, 8)
		}
	}
}

// TestRoomLowest holds P23.2 for plans of which the lowest core can be emptied, though others can with fewer moves, or have the room already.
func TestRoomLowest(t *testing.T) {
	p := planOf(8, 0x8005, whole(1, 1, 0), whole(2, 1, 0), whole(3, 4, 0), whole(4, 1, 2), whole(5, 7, 2), whole(6, 1, 15))
	roomIs(t, p, 4, 8, 0, [2]int{1, 15}, [2]int{2, 15})
	roomIs(t, p, 4, 2, 0, [2]int{1, 15}, [2]int{2, 15})
	roomIs(t, p, 3, 1, 0, [2]int{1, 15})
	// With the budget one fewer a higher core is emptied.
	roomIs(t, p, 4, 1, 15)
	roomIs(t, p, 7, 8, 0, [2]int{1, 15}, [2]int{2, 15}, [2]int{3, 15})
	roomIs(t, p, 7, 2, 2, [2]int{4, 0}, [2]int{5, 15})
	roomIs(t, p, 7, 1, 15)
	roomIs(t, p, 7, 0, 15)
	roomIs(t, p, 8, 3, 0, [2]int{1, 15}, [2]int{2, 15}, [2]int{3, 15})
	roomIs(t, p, 8, 2, 2, [2]int{4, 0}, [2]int{5, 15})
	roomIs(t, p, 8, 1, 15, [2]int{6, 0})
	roomFails(t, api.ErrFull, p, 8, 0)
}

// TestRoomHigher holds P23.2 for plans of which the lowest cores can't be emptied, with whatever budget, and with that at hand.
func TestRoomHigher(t *testing.T) {
	// The core 1 alone can be emptied: the units of the others fit nowhere.
	p := planOf(8, 7, whole(1, 6, 0), whole(2, 2, 1), whole(3, 4, 1), whole(4, 6, 2))
	for _, share := range []int{3, 4} {
		roomIs(t, p, share, 8, 1, [2]int{2, 0})
		roomIs(t, p, share, 1, 1, [2]int{2, 0})
		roomFails(t, api.ErrFull, p, share, 0)
	}
	roomIs(t, p, 2, 0, 0)
	roomFails(t, api.ErrFull, p, 5, 8)
	// Each of the cores alone, to the lowest other one.
	for core := range 16 {
		q := left(9, even(16, 3))
		q.Places[core].Share = 3
		q = with(q, whole(7, 3, core))
		to := 0
		if core == 0 {
			to = 1
		}
		for share := 4; share <= 6; share++ {
			roomIs(t, q, share, 8, core, [2]int{7, to})
			roomIs(t, q, share, 1, core, [2]int{7, to})
			roomFails(t, api.ErrFull, q, share, 0)
		}
	}
	// The lower ones need more moves than the budget, each its own number.
	r := planOf(12, 0x9012)
	r.Places = []place{
		whole(1, 1, 1), whole(2, 1, 1), whole(3, 1, 1), whole(4, 9, 1),
		whole(5, 2, 4), whole(6, 1, 4), whole(7, 9, 4),
		whole(8, 3, 12), whole(9, 9, 12),
		whole(10, 9, 15),
	}
	roomIs(t, r, 3, 8, 1, [2]int{1, 15}, [2]int{2, 15}, [2]int{3, 15})
	roomIs(t, r, 3, 3, 1, [2]int{1, 15}, [2]int{2, 15}, [2]int{3, 15})
	roomIs(t, r, 3, 2, 4, [2]int{6, 15}, [2]int{5, 15})
	roomIs(t, r, 3, 1, 12, [2]int{8, 15})
	roomIs(t, r, 3, 0, 15)
	s := with(r, whole(1001, 1, 15))
	roomFails(t, api.ErrFull, s, 3, 8)
	roomIs(t, s, 2, 8, 1, [2]int{1, 15}, [2]int{2, 15})
	roomIs(t, s, 2, 1, 15)
}

// TestRoomWindows holds P23.2 for plans with windows: cores that are full of them, and some that are in part.
func TestRoomWindows(t *testing.T) {
	p := busy()
	roomIs(t, p, 2, 0, 5)
	roomIs(t, p, 2, 1, 3, [2]int{40, 5})
	roomIs(t, p, 4, 2, 3, [2]int{40, 5}, [2]int{200, 5})
	roomIs(t, p, 4, 1, 5)
	roomIs(t, p, 8, 3, 3, [2]int{40, 5}, [2]int{200, 5}, [2]int{2, 15})
	roomIs(t, p, 8, 2, 5, [2]int{9, 15})
	roomIs(t, p, 9, 8, 5, [2]int{9, 15})
	roomFails(t, api.ErrFull, p, 9, 0)
	roomFails(t, api.ErrFull, p, 10, 8)
	q := planOf(4, 7, split(1, 4, at(0, 0, 1), at(1, 2, 3)), split(2, 4, at(0, 2, 3), at(1, 0, 1)))
	roomIs(t, q, 4, 0, 2)
	roomFails(t, api.ErrFull, with(q, whole(1001, 2, 2)), 3, 8)
	roomIs(t, with(q, whole(1001, 2, 2)), 2, 8, 2)
}

// TestRoomNone holds P23.2 for plans of which no core can be emptied.
func TestRoomNone(t *testing.T) {
	for _, n := range []int{1, 2, 3, 16} {
		for _, f := range []int{2, 9, 64} {
			full := left(f, even(n, 0))
			for budget := range 9 {
				roomFails(t, api.ErrFull, full, 1, budget)
				roomFails(t, api.ErrFull, full, f, budget)
			}
			// In frames of 2 the units that leave a room of 1 are no greater than it.
			if f > 2 {
				roomFails(t, api.ErrFull, left(f, even(n, 1)), 2, 8)
			}
			roomIs(t, left(f, even(n, 1)), 1, 0, 0)
		}
	}
	// All rooms together would do many times over.
	p := left(64, even(16, 31))
	roomFails(t, api.ErrFull, p, 32, 8)
	roomIs(t, p, 31, 0, 0)
	// Nine units are one too many for any budget, on each core.
	var places []place
	for unit := 1; unit <= 36; unit++ {
		places = append(places, whole(unit, 1, (unit-1)%4))
	}
	q := planOf(18, 15, places...)
	roomFails(t, api.ErrFull, q, 18, 8)
	roomIs(t, q, 17, 8, 0, [2]int{1, 1}, [2]int{5, 1}, [2]int{9, 1}, [2]int{13, 1}, [2]int{17, 1}, [2]int{21, 1}, [2]int{25, 1}, [2]int{29, 1})
	roomFails(t, api.ErrFull, q, 17, 7)
}

// wrongPlans are plans each of which breaks one condition of chapter 16, but for the zero one; all have much room.
func wrongPlans() []api.Plan {
	half := split(3, 4, at(0, 0, 1), at(1, 2, 3))
	l := []api.Plan{
		{},
		planOf(8, 0), planOf(8, 1<<16), planOf(8, 1<<16|3), planOf(8, 1<<31|3), planOf(8, math.MaxUint32),
		planOf(8, 3, whole(2, 1, 0), whole(1, 1, 0)), planOf(8, 3, whole(2, 1, 0), whole(2, 1, 1)), planOf(8, 7, half, half),
		planOf(8, 3, whole(1, 1, 2)), planOf(8, 1<<15, whole(1, 1, 0)), planOf(8, 3, whole(1, 1, -1)), planOf(8, 3, whole(1, 1, 16)),
		planOf(8, 3, whole(1, 0, 0)), planOf(8, 3, whole(1, -1, 0)), planOf(8, 3, whole(1, 9, 0)),
		planOf(8, 7, whole(1, 4, 0), whole(2, 5, 0)), planOf(8, 7, whole(1, 7, 0), half),
		planOf(8, 7, split(3, 2, at(0, 0, 1))), planOf(8, 7, split(3, 4, at(1, 2, 3), at(0, 0, 1))), planOf(8, 7, split(3, 4, at(0, 0, 1), at(0, 2, 3))),
		planOf(8, 7, split(3, 2, at(0, 0, 1), at(1))), planOf(8, 7, split(3, 4, at(0, 0, 1), at(1, 2, 8))), planOf(8, 7, split(3, 4, at(0, 0, 1), at(3, 2, 3))),
		planOf(8, 7, split(3, 4, at(0, 0, 1), at(1, 1, 3))), planOf(8, 7, split(3, 3, at(0, 0, 1), at(1, 1, 3))),
		planOf(8, 7, split(3, 3, at(0, 0, 1), at(1, 2, 3))), planOf(8, 7, split(3, 5, at(0, 0, 1), at(1, 2, 3))),
		planOf(8, 7, place{Unit: 3, Share: 4, Core: 1, Pieces: half.Pieces}),
		planOf(8, 7, half, split(4, 2, at(0, 1), at(1, 0))),
		planOf(8, 3, half, split(4, 2, at(0, 7), at(1, 6))),
		planOf(8, 1, split(3, 2, at(0, 0), at(0, 1))),
	}
	for _, f := range append([]int{0, 1, 65, 66, 128}, farNumbers...) {
		l = append(l, planOf(f, 3), planOf(f, 3, whole(1, 1, 0)))
	}
	for _, unit := range append([]int{0, 201, 1000, 1041}, farNumbers...) {
		l = append(l, planOf(8, 3, whole(unit, 1, 0)))
	}
	return l
}

// TestWrong holds P23.1 and P23.2 for plans that are not valid, whatever the other arguments are.
func TestWrong(t *testing.T) {
	for _, p := range wrongPlans() {
		if plan.Check(p) != api.ErrPlan {
			t.Errorf("%v is right", p)
		}
		for _, share := range []int{-1, 0, 1, 2, 8, 9, 65} {
			for _, budget := range []int{-1, 0, 1, 8, 9} {
				for _, core := range []int{-1, 0, 1, 2, 15, 16} {
					emptyFails(t, api.ErrPlan, p, core, share, budget)
				}
				roomFails(t, api.ErrPlan, p, share, budget)
			}
		}
	}
}

// TestWrongCore holds P23.1 for cores that the plan lacks, though the core would have to be emptied of nothing.
func TestWrongCore(t *testing.T) {
	for _, cores := range []uint32{1, 1 << 15, 3, 0x8001, 0xff00, 0x5555, 0xffff} {
		p := planOf(8, cores)
		for core := range 16 {
			for share := 1; share <= 8; share++ {
				if hasCore(p, core) {
					emptyIs(t, p, core, share, 0)
				} else {
					emptyFails(t, api.ErrCore, p, core, share, 0)
					emptyFails(t, api.ErrCore, p, core, share, 8)
				}
			}
		}
		for _, core := range append([]int{16, 17, 31, 32, 33, 63, 64, 65, 128, 256, 1 << 31}, farNumbers...) {
			for _, budget := range []int{0, 1, 8} {
				emptyFails(t, api.ErrCore, p, core, 1, budget)
				emptyFails(t, api.ErrCore, p, core, 8, budget)
				emptyFails(t, api.ErrCore, left(8, even(16, 0)), core, 8, budget)
			}
		}
	}
}

// TestPairs holds P23.1 and P23.2 for errors at once, each pair of them and all more that can be: which one is named.
func TestPairs(t *testing.T) {
	// No core can be emptied for more than one tick.
	right := planOf(6, 7, whole(1, 5, 0), whole(2, 5, 1), whole(3, 5, 2))
	wrong := with(right, whole(4, 2, 0))
	emptyIs(t, right, 0, 1, 0)
	roomIs(t, right, 1, 0, 0)
	emptyFails(t, api.ErrFull, right, 0, 2, 8)
	roomFails(t, api.ErrFull, right, 2, 8)
	for _, core := range append([]int{0, 2, 3, 15, 16}, farNumbers...) {
		for _, share := range append([]int{0, 1, 2, 6, 7}, farNumbers...) {
			for _, budget := range append([]int{0, 1, 8, 9}, farNumbers...) {
				emptyFails(t, api.ErrPlan, wrong, core, share, budget)
				emptyFails(t, api.ErrPlan, api.Plan{}, core, share, budget)
				switch {
				case share < 1 || share > 6:
					emptyFails(t, api.ErrShare, right, core, share, budget)
				case budget < 0 || budget > 8:
					emptyFails(t, api.ErrArg, right, core, share, budget)
				case core < 0 || core > 2:
					emptyFails(t, api.ErrCore, right, core, share, budget)
				case share > 1:
					emptyFails(t, api.ErrFull, right, core, share, budget)
				default:
					emptyIs(t, right, core, share, budget)
				}
			}
		}
	}
	for _, share := range append([]int{0, 1, 2, 6, 7}, farNumbers...) {
		for _, budget := range append([]int{0, 1, 8, 9}, farNumbers...) {
			roomFails(t, api.ErrPlan, wrong, share, budget)
			roomFails(t, api.ErrPlan, api.Plan{}, share, budget)
			switch {
			case share < 1 || share > 6:
				roomFails(t, api.ErrShare, right, share, budget)
			case budget < 0 || budget > 8:
				roomFails(t, api.ErrArg, right, share, budget)
			case share > 1:
				roomFails(t, api.ErrFull, right, share, budget)
			default:
				roomIs(t, right, share, budget, 0)
			}
		}
	}
}

// checkAll holds the promises for a plan with all cores, shares and budgets, and some beside them, and tells by how many moves cores were emptied.
func checkAll(t *testing.T, p api.Plan, cores int) map[int]int {
	t.Helper()
	by := map[int]int{}
	for share := range p.Frame + 2 {
		for budget := -1; budget <= 5; budget++ {
			for core := -1; core <= cores; core++ {
				if x := checkEmpty(t, p, core, share, budget); x.e == api.OK {
					by[len(x.units)]++
				}
			}
			checkRoom(t, p, share, budget)
		}
	}
	return by
}

// smallPlaces are all whole places of a unit on the cores from 0 to ahead of n.
func smallPlaces(f, n, unit int) []place {
	var l []place
	for share := 1; share <= f; share++ {
		for core := range n {
			l = append(l, whole(unit, share, core))
		}
	}
	return l
}

// smallPlans are all right plans of a frame and of the cores from 0 to ahead of n in which these units are whole, beside the places that are given.
func smallPlans(f, n int, given []place, units ...int) []api.Plan {
	l := []api.Plan{with(planOf(f, 1<<n-1), given...)}
	for _, unit := range units {
		var more []api.Plan
		for _, p := range l {
			for _, x := range smallPlaces(f, n, unit) {
				if q := with(p, x); plan.Check(q) == api.OK {
					more = append(more, q)
				}
			}
		}
		l = more
	}
	return l
}

// TestSmall holds all promises for all whole places of a few units in small frames, some beside windows.
func TestSmall(t *testing.T) {
	by := map[int]int{}
	for _, l := range [][]api.Plan{
		smallPlans(2, 2, nil, 1, 2, 1001), smallPlans(3, 2, nil, 7, 8, 9), smallPlans(2, 3, nil, 1, 2, 200, 1040), smallPlans(3, 3, nil, 1, 2, 3), smallPlans(4, 2, nil, 1, 2, 3, 4), smallPlans(5, 2, nil, 1, 2, 3, 4),
		smallPlans(3, 2, []place{split(5, 2, at(0, 0), at(1, 1))}, 1, 9), smallPlans(4, 3, []place{split(5, 4, at(0, 0, 1), at(2, 3), at(1, 2))}, 1, 9),
		smallPlans(4, 3, []place{split(5, 3, at(0, 0), at(2, 2, 3)), split(6, 2, at(1, 0), at(2, 1))}, 1, 9),
	} {
		for _, p := range l {
			for n, times := range checkAll(t, p, 3) {
				by[n] += times
			}
		}
	}
	for n, times := range []int{10000, 10000, 3000, 200, 20} {
		if by[n] < times {
			t.Error(by)
		}
	}
}

// someUnit is the number of a task or, more seldom, of a group.
func someUnit(rng *rand.Rand) int {
	if rng.Intn(3) == 0 {
		return 1001 + rng.Intn(40)
	}
	return 1 + rng.Intn(200)
}

// tryPlace is a plan with a place, if that may be; else it is as it was.
func tryPlace(p api.Plan, x place) api.Plan {
	if q := with(p, x); plan.Check(q) == api.OK {
		return q
	}
	return p
}

// someSplit has ticks that are in no window, on two or three cores; it may have too few pieces for a place.
func someSplit(rng *rand.Rand, p api.Plan, unit int) place {
	cores := plan.Cores(p)
	rng.Shuffle(len(cores), func(i, j int) { cores[i], cores[j] = cores[j], cores[i] })
	cores = cores[:min(len(cores), 2+rng.Intn(2))]
	var own [16]uint64
	x := place{Unit: unit}
	for tick := range p.Frame {
		if core := cores[rng.Intn(len(cores))]; rng.Intn(3) == 0 && plan.Windows(p, core)>>tick%2 == 0 {
			own[core] |= 1 << tick
			x.Share++
		}
	}
	for core, ticks := range own {
		if ticks != 0 {
			x.Pieces = append(x.Pieces, piece{Core: core, Ticks: ticks})
		}
	}
	return x
}

// somePlan is a right one of some frame, some cores, a few split places and many whole ones, most of them of small Shares and on the first few.
func somePlan(rng *rand.Rand) api.Plan {
	p := planOf(2+rng.Intn(63), 0)
	if rng.Intn(2) == 0 {
		p.Frame = 2 + rng.Intn(12)
	}
	cores := rng.Perm(16)[:1+rng.Intn(1+rng.Intn(16))]
	for _, core := range cores {
		p.Cores |= 1 << core
	}
	for range rng.Intn(4) {
		p = tryPlace(p, someSplit(rng, p, someUnit(rng)))
	}
	most := 1 + rng.Intn(1+rng.Intn(p.Frame))
	for range rng.Intn(1 + 10*len(cores)) {
		core := cores[rng.Intn(1+rng.Intn(len(cores)))]
		p = tryPlace(p, whole(someUnit(rng), 1+rng.Intn(1+rng.Intn(most)), core))
	}
	return p
}

// aimed is a share that a core has not yet, but may have behind a few moves.
func aimed(rng *rand.Rand, p api.Plan, core int) int {
	share := roomOf(p, core)
	for _, i := range ordered(p, core)[:rng.Intn(len(ordered(p, core))+1)] {
		share += p.Places[i].Share
	}
	return min(share+rng.Intn(2), p.Frame)
}

// TestAny holds all promises for any plans, cores, shares and budgets, some of which may not be.
func TestAny(t *testing.T) {
	rng := rand.New(rand.NewSource(231))
	by, found, ended := map[int]int{}, map[int]int{}, map[api.Errno]int{}
	for range 12000 {
		p := somePlan(rng)
		cores := plan.Cores(p)
		core, budget := cores[rng.Intn(len(cores))], min(rng.Intn(14), 8)
		share := aimed(rng, p, core)
		checkSmaller(t, p, core)
		switch rng.Intn(16) {
		case 0:
			share = rng.Intn(p.Frame+3) - 1
		case 1:
			budget = 9*rng.Intn(2) - rng.Intn(2)
		case 2:
			core = rng.Intn(18) - 1
		case 3:
			p.Cores ^= 1 << rng.Intn(17)
		}
		x := checkEmpty(t, p, core, share, budget)
		by[len(x.units)]++
		ended[x.e]++
		y := checkRoom(t, p, share, budget)
		if y.e == api.OK && len(y.units) > 0 {
			found[y.core]++
		}
	}
	for n := range 9 {
		if by[n] < 20 {
			t.Error(by)
		}
	}
	for core := range 16 {
		if found[core] < 10 {
			t.Error(found)
		}
	}
	for _, e := range []api.Errno{api.OK, api.ErrPlan, api.ErrShare, api.ErrArg, api.ErrCore, api.ErrFull} {
		if ended[e] < 100 {
			t.Error(ended)
		}
	}
}

// checkSmaller holds that of a core's units the first one is moved, if any can be: a smaller Share fits wherever a greater one does.
func checkSmaller(t *testing.T, p api.Plan, core int) {
	t.Helper()
	if i, _, ok := nextOf(p, core); ok && i != ordered(p, core)[0] {
		t.Errorf("of the core %d of %v, %v is moved", core, p, p.Places[i])
	}
}

// roomy is a plan whose places and pieces have spare capacity, in which something stands.
func roomy(p api.Plan) api.Plan {
	q := deep(p)
	q.Places = append(q.Places, whole(77, 77, 77), whole(78, 78, 78))[:len(p.Places)]
	for i, x := range q.Places {
		q.Places[i].Pieces = append(x.Pieces, at(79, 1), at(80, 2))[:len(x.Pieces)]
	}
	return q
}

// stretched is a plan whose spare capacity is part of it.
func stretched(p api.Plan) api.Plan {
	p.Places = slices.Clone(p.Places[:cap(p.Places)])
	for i, x := range p.Places {
		p.Places[i].Pieces = slices.Clone(x.Pieces[:cap(x.Pieces)])
	}
	return p
}

// spoil changes all of a plan's memory, its spare capacity too.
func spoil(p api.Plan) {
	for i, x := range p.Places[:cap(p.Places)] {
		for j := range x.Pieces[:cap(x.Pieces)] {
			x.Pieces[:cap(x.Pieces)][j] = piece{Core: 91, Ticks: 92}
		}
		p.Places[:cap(p.Places)][i] = whole(93, 94, 95)
	}
}

// spoilAnswer changes all memory of an answer.
func spoilAnswer(x answer) {
	spoil(x.p)
	for i := range x.units[:cap(x.units)] {
		x.units[:cap(x.units)][i] = 96
	}
}

// TestMemory holds that no argument is changed or kept, and that results are memory of their own, beside errors too.
func TestMemory(t *testing.T) {
	stuck := planOf(4, 3, whole(1, 1, 0), whole(2, 1, 0), whole(3, 3, 1))
	for _, p := range []api.Plan{busy(), stuck, planOf(8, 3), planOf(8, 3, whole(1, 9, 0)), {}, left(64, even(16, 4))} {
		for _, share := range []int{1, 2, 4, 8, 9, 65} {
			for _, budget := range []int{0, 1, 3, 8, 9} {
				for _, core := range []int{0, 1, 3, 5, 16} {
					owns(t, p, rightEmpty(p, core, share, budget), func(q api.Plan) answer { return empty(q, core, share, budget) })
				}
				owns(t, p, rightRoom(p, share, budget), func(q api.Plan) answer { return room(q, share, budget) })
			}
		}
	}
}

// owns holds that what a call answers for a plan has memory of its own.
func owns(t *testing.T, k api.Plan, right answer, call func(api.Plan) answer) {
	t.Helper()
	p := roomy(k)
	args := stretched(p)
	got, other := call(p), call(p)
	spoilAnswer(got)
	if !samePlan(stretched(p), args) {
		t.Errorf("%v shares memory with what it became: %v", k, p)
	}
	if later := call(p); !sameAnswer(other, right) || !sameAnswer(later, right) {
		t.Errorf("%v became what shares memory with another: %v, %v; want %v", k, other, later, right)
	}
	spoil(p)
	if !sameAnswer(other, right) {
		t.Errorf("%v is kept by what it became: %v; want %v", k, other, right)
	}
}

// TestMemoryPieces holds that no two places of a result share memory, and that none shares it with the argument, where nobody is moved and where somebody is.
func TestMemoryPieces(t *testing.T) {
	for _, share := range []int{1, 8} {
		p := busy()
		q, _, e := moves.Empty(p, 3, share, 8)
		if e != api.OK {
			t.Fatal(e)
		}
		for i := range q.Places {
			x := answer{p: deep(q)}
			q.Places[i].Pieces = append(q.Places[i].Pieces, at(99, 1))
			for j := range q.Places[i].Pieces {
				q.Places[i].Pieces[j].Core = 98
			}
			x.p.Places[i] = q.Places[i]
			if !samePlan(q, x.p) || !samePlan(p, busy()) {
				t.Errorf("%v of %v shares memory", q.Places[i], q)
			}
		}
	}
}
