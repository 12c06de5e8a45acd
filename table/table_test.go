package table_test

import (
	"math"
	"math/rand"
	"reflect"
	"slices"
	"testing"

	"dogwatch/api"
	"dogwatch/plan"
	"dogwatch/table"
)

type (
	want  = api.Want
	piece = api.Piece
	place = api.Place
)

// farNumbers are neither ticks of a frame nor units, shares or cores; some of them are one in their lowest bits.
var farNumbers = []int{
	math.MinInt, math.MinInt + 1, math.MinInt + 4, -1 << 32, -1<<32 + 1, -1000, -65, -64, -63, -32, -17, -16, -2, -1,
	1 << 16, 1 << 32, 1<<32 + 1, 1<<32 + 4, 1<<40 + 2, math.MaxInt - 1, math.MaxInt,
}

func whole(unit, share, core int) place { return place{Unit: unit, Share: share, Core: core} }

func split(unit, share int, pieces ...piece) place {
	return place{Unit: unit, Share: share, Pieces: pieces}
}

// at is a piece of these ticks.
func at(core int, ticks ...int) piece {
	y := piece{Core: core}
	for _, tick := range ticks {
		y.Ticks |= 1 << tick
	}
	return y
}

// row is a piece of the ticks from one to ahead of another.
func row(core, from, to int) piece {
	y := piece{Core: core}
	for tick := from; tick < to; tick++ {
		y.Ticks |= 1 << tick
	}
	return y
}

func planOf(f int, cores uint32, places ...place) api.Plan {
	return api.Plan{Frame: f, Cores: cores, Places: places}
}

func wantOf(unit, share int) want { return want{Unit: unit, Share: share} }

func tab(core int, ticks []int, wholes ...want) table.Table {
	return table.Table{Core: core, Ticks: ticks, Wholes: wholes}
}

// deep is a plan that shares no memory with another one; what is empty is nil.
func deep(p api.Plan) api.Plan {
	var places []place
	for _, x := range p.Places {
		x.Pieces = append([]piece(nil), x.Pieces...)
		places = append(places, x)
	}
	p.Places = places
	return p
}

// deepTables are tables that share no memory with others; what is empty is nil.
func deepTables(l []table.Table) []table.Table {
	var own []table.Table
	for _, x := range l {
		own = append(own, tab(x.Core, append([]int(nil), x.Ticks...), append([]want(nil), x.Wholes...)...))
	}
	return own
}

func samePlan(a, b api.Plan) bool { return reflect.DeepEqual(deep(a), deep(b)) }

func sameTables(a, b []table.Table) bool {
	return reflect.DeepEqual(deepTables(a), deepTables(b))
}

// ownerOf is the unit of a piece that has a tick on a core, or 0; of a plan that is right there is one at most.
func ownerOf(p api.Plan, core, tick int) int {
	for _, x := range p.Places {
		for _, y := range x.Pieces {
			if y.Core == core && y.Ticks>>tick%2 == 1 {
				return x.Unit
			}
		}
	}
	return 0
}

// tablesOf is the model of Of for a right plan: each tick is asked of each place.
func tablesOf(p api.Plan) []table.Table {
	var l []table.Table
	for core := range 16 {
		if p.Cores>>core%2 == 0 {
			continue
		}
		x := tab(core, nil)
		for tick := range p.Frame {
			x.Ticks = append(x.Ticks, ownerOf(p, core, tick))
		}
		for _, y := range p.Places {
			if len(y.Pieces) == 0 && y.Core == core {
				x.Wholes = append(x.Wholes, wantOf(y.Unit, y.Share))
			}
		}
		l = append(l, x)
	}
	return l
}

// checkOf holds P17.1 for any plan.
func checkOf(t *testing.T, p api.Plan) []table.Table {
	t.Helper()
	got, e := table.Of(p)
	if plan.Check(p) != api.OK {
		if e != api.ErrPlan || len(got) != 0 {
			t.Errorf("Of(%v): %v, %d; want nothing, %d", p, got, e, api.ErrPlan)
		}
	} else if e != api.OK || !sameTables(got, tablesOf(p)) {
		t.Errorf("Of(%v): %v, %d; want %v", p, got, e, tablesOf(p))
	}
	return got
}

// checkIs holds P17.1 for a right plan whose tables a test names.
func checkIs(t *testing.T, p api.Plan, l ...table.Table) {
	t.Helper()
	if plan.Check(p) != api.OK {
		t.Errorf("%v is not right", p)
	}
	if got := checkOf(t, p); !sameTables(got, l) {
		t.Errorf("Of(%v): %v; want %v", p, got, l)
	}
}

// TestExamples holds the examples of the chapter.
func TestExamples(t *testing.T) {
	p := planOf(4, 3, whole(1, 3, 0), split(2, 3, at(0, 0), at(1, 1, 2)))
	checkIs(t, p, tab(0, []int{2, 0, 0, 0}, wantOf(1, 3)), tab(1, []int{0, 2, 2, 0}))
	l, _ := table.Of(p)
	if unit, ok := table.At(l, 0, 0); unit != 2 || !ok {
		t.Error(unit, ok)
	}
	if table.Loose(l[0]) != 3 || table.Loose(l[1]) != 2 || !slices.Equal(table.Busy(l, 1), []int{2}) {
		t.Error(table.Loose(l[0]), table.Loose(l[1]), table.Busy(l, 1))
	}
	if q, e := table.Back(4, l...); e != api.OK || !samePlan(q, p) {
		t.Error(q, e)
	}
	l[1].Ticks[0] = 2
	if q, e := table.Back(4, l...); e != api.ErrPlan || !samePlan(q, api.Plan{}) {
		t.Error(q, e)
	}
}

// busy is a plan in which the core 15 is full, the core 3 is not, and the core 7 has nothing; it has no core 0.
func busy() api.Plan {
	return planOf(10, 1<<3|1<<5|1<<7|1<<15,
		whole(2, 3, 3),
		split(5, 6, at(3, 0, 9), row(15, 1, 5)),
		whole(9, 1, 15),
		whole(200, 2, 3),
		split(1001, 4, at(3, 4), at(5, 0, 1), at(15, 5)),
		whole(1004, 4, 15),
	)
}

// busyTables are the tables of busy.
func busyTables() []table.Table {
	return []table.Table{
		tab(3, []int{5, 0, 0, 0, 1001, 0, 0, 0, 0, 5}, wantOf(2, 3), wantOf(200, 2)),
		tab(5, []int{1001, 1001, 0, 0, 0, 0, 0, 0, 0, 0}),
		tab(7, make([]int, 10)),
		tab(15, []int{0, 5, 5, 5, 5, 1001, 0, 0, 0, 0}, wantOf(9, 1), wantOf(1004, 4)),
	}
}

// TestOf holds P17.1 for tables that a test names.
func TestOf(t *testing.T) {
	checkIs(t, busy(), busyTables()...)
	// One core, at both ends and in the middle.
	for _, core := range []int{0, 7, 15} {
		checkIs(t, planOf(2, 1<<core), tab(core, []int{0, 0}))
		checkIs(t, planOf(2, 1<<core, whole(1, 2, core)), tab(core, []int{0, 0}, wantOf(1, 2)))
		checkIs(t, planOf(3, 1<<core, whole(7, 1, core), whole(1040, 2, core)), tab(core, []int{0, 0, 0}, wantOf(7, 1), wantOf(1040, 2)))
	}
	// The least frame with a split unit, which has the Core 0 and is not whole there.
	checkIs(t, planOf(2, 3, split(1040, 2, at(0, 1), at(1, 0))), tab(0, []int{0, 1040}), tab(1, []int{1040, 0}))
	checkIs(t, planOf(2, 1|1<<15, split(1, 2, at(0, 0), at(15, 1)), whole(2, 1, 0), whole(3, 1, 15)), tab(0, []int{1, 0}, wantOf(2, 1)), tab(15, []int{0, 1}, wantOf(3, 1)))
	// Units whole on one core rise, whatever their shares and kinds are.
	checkIs(t, planOf(9, 6, whole(1, 1, 2), whole(4, 3, 2), whole(5, 9, 1), whole(200, 2, 2), whole(1001, 1, 2), whole(1040, 2, 2)),
		tab(1, make([]int, 9), wantOf(5, 9)),
		tab(2, make([]int, 9), wantOf(1, 1), wantOf(4, 3), wantOf(200, 2), wantOf(1001, 1), wantOf(1040, 2)))
	// A unit on two and one on three cores.
	checkIs(t, planOf(4, 0b1011, split(8, 2, at(0, 3), at(3, 0)), split(9, 4, at(0, 1), at(1, 0, 3), at(3, 2))),
		tab(0, []int{0, 9, 0, 8}), tab(1, []int{9, 0, 0, 9}), tab(3, []int{8, 0, 9, 0}))
	// A core that is all windows.
	checkIs(t, planOf(3, 7, split(1, 3, at(0, 0, 1), at(1, 2)), split(2, 2, at(0, 2), at(1, 0)), whole(3, 1, 1), whole(4, 3, 2)),
		tab(0, []int{1, 1, 2}), tab(1, []int{2, 0, 1}, wantOf(3, 1)), tab(2, []int{0, 0, 0}, wantOf(4, 3)))
}

// TestOfGreat holds P17.1 for the greatest frame and all cores.
func TestOfGreat(t *testing.T) {
	var none, wholes, one []table.Table
	var places []place
	var pieces []piece
	for core := range 16 {
		none = append(none, tab(core, make([]int, 64)))
		wholes = append(wholes, tab(core, make([]int, 64), wantOf(core+1, 64)))
		places = append(places, whole(core+1, 64, core))
		pieces = append(pieces, row(core, core*4, core*4+4))
		ticks := make([]int, 64)
		for tick := core * 4; tick < core*4+4; tick++ {
			ticks[tick] = 1001
		}
		one = append(one, tab(core, ticks))
	}
	checkIs(t, planOf(64, 0xffff), none...)
	checkIs(t, planOf(64, 0xffff, places...), wholes...)
	checkIs(t, planOf(64, 0xffff, split(1001, 64, pieces...)), one...)
	// Of each core the first and the last tick.
	ticks := make([]int, 64)
	ticks[0] = 6
	last := make([]int, 64)
	last[63] = 6
	checkIs(t, planOf(64, 1<<14|1<<15, split(6, 2, at(14, 63), at(15, 0))), tab(14, last), tab(15, ticks))
}

// TestOfMost holds P17.1 for as many split units as there may be.
func TestOfMost(t *testing.T) {
	var places []place
	for i := range 15 {
		places = append(places, split(1+i, 2, at(i, 2*i), at(i+1, 2*i+1)))
	}
	p := planOf(64, 0xffff, places...)
	l := checkOf(t, p)
	if plan.Check(p) != api.OK || len(l) != 16 {
		t.Fatal(l)
	}
	for core, x := range l {
		var ticks [64]int
		if core < 15 {
			ticks[2*core] = core + 1
		}
		if core > 0 {
			ticks[2*core-1] = core
		}
		if x.Core != core || !slices.Equal(x.Ticks, ticks[:]) || len(x.Wholes) != 0 {
			t.Error(core, x)
		}
	}
}

// right is a plan that many a change makes wrong.
func right() api.Plan {
	return planOf(8, 0b1011, whole(1, 4, 0), split(3, 4, at(0, 0, 1), at(1, 2, 3)), split(5, 3, at(0, 7), at(1, 1), at(3, 0)), whole(1001, 7, 3))
}

// TestOfWrong holds P17.1 for plans that are not valid: one condition of chapter 16 is broken in each.
func TestOfWrong(t *testing.T) {
	if plan.Check(right()) != api.OK {
		t.Fatal(right())
	}
	checkOf(t, right())
	wrong := func(p api.Plan) {
		t.Helper()
		if l, e := table.Of(p); e != api.ErrPlan || len(l) != 0 {
			t.Errorf("Of(%v): %v, %d", p, l, e)
		}
	}
	wrong(api.Plan{})
	for _, f := range append([]int{0, 1, 7, 65, 66, 128}, farNumbers...) {
		p := right()
		p.Frame = f
		wrong(p)
		if f != 7 {
			wrong(planOf(f, 1))
		}
	}
	for _, cores := range []uint32{0, 1 << 16, 1<<16 | 1, 1 << 31, 1<<31 | 0b1011, math.MaxUint32} {
		wrong(planOf(8, cores))
		p := right()
		p.Cores = cores
		wrong(p)
	}
	places := func(l ...place) { t.Helper(); wrong(planOf(8, 0b1011, l...)) }
	one, three, five, last := right().Places[0], right().Places[1], right().Places[2], right().Places[3]
	places(three, one, five, last)
	places(one, one, five)
	places(one, three, three)
	for _, unit := range append([]int{0, 201, 1000, 1041, 2001}, farNumbers...) {
		places(whole(unit, 4, 0))
		places(split(unit, 4, at(0, 0, 1), at(1, 2, 3)))
	}
	for _, share := range append([]int{0, 9, 65}, farNumbers...) {
		places(whole(1, share, 1))
		places(one, split(3, share, at(0, 0, 1), at(1, 2, 3)))
	}
	for _, core := range append([]int{2, 4, 16, 31, 32}, farNumbers...) {
		places(whole(1, 4, core))
		places(split(3, 4, at(0, 0, 1), at(core, 2, 3)))
		places(split(3, 4, at(core, 0, 1), at(1, 2, 3)))
		places(place{Unit: 3, Share: 4, Core: core, Pieces: three.Pieces})
	}
	places(place{Unit: 3, Share: 4, Core: 1, Pieces: three.Pieces})
	for _, x := range []place{
		split(3, 2, at(0, 0, 1)), split(3, 4, at(1, 2, 3), at(0, 0, 1)), split(3, 4, at(1, 0, 1), at(1, 2, 3)),
		split(3, 2, at(0, 0, 1), at(1)), split(3, 2, at(0), at(1, 2, 3)), split(3, 4, at(0, 0, 1), at(1, 2, 8)), split(3, 4, at(0, 0, 63), at(1, 2, 3)),
		split(3, 4, at(0, 0, 1), at(1, 1, 3)), split(3, 3, at(0, 0, 1), at(1, 1, 3)), split(3, 3, at(0, 0, 1), at(1, 2, 3)), split(3, 5, at(0, 0, 1), at(1, 2, 3)),
	} {
		places(x)
	}
	// Windows that two units share, too much on a core, and as many split units as there are cores.
	places(three, split(5, 3, at(0, 1), at(1, 4), at(3, 0)))
	places(one, three, five, whole(1001, 8, 3))
	places(whole(1, 6, 0), three, five)
	places(whole(1, 1, 0), three, five, split(7, 2, at(1, 0), at(3, 1)))
	wrong(planOf(8, 0b11, three, split(5, 2, at(0, 7), at(1, 1))))
}

// somePlan is a right one: places of random units are put on where there is room, often up to the last tick.
func somePlan(rng *rand.Rand) api.Plan {
	p := planOf(2+rng.Intn(63), uint32(1+rng.Intn(1<<16-1)))
	if rng.Intn(2) == 0 {
		p.Frame = 2 + rng.Intn(7)
	}
	for range rng.Intn(4) {
		if less := p.Cores & uint32(rng.Intn(1<<16)); less != 0 {
			p.Cores = less
		}
	}
	for range rng.Intn(30) {
		unit := 1 + rng.Intn(200)
		if rng.Intn(3) == 0 {
			unit = 1001 + rng.Intn(40)
		}
		if _, there := plan.Find(p, unit); there {
			continue
		}
		x := someWhole(rng, p, unit)
		if rng.Intn(2) == 0 && plan.Splits(p) < len(plan.Cores(p))-1 {
			x = someSplit(rng, p, unit)
		}
		if x.Share > 0 {
			p = plan.Put(p, x)
		}
	}
	return p
}

// someWhole is a whole place that may be put to a plan, or one without a share if there is no room.
func someWhole(rng *rand.Rand, p api.Plan, unit int) place {
	cores := plan.Cores(p)
	core := cores[rng.Intn(len(cores))]
	room := plan.Room(p, core)
	if room == 0 {
		return place{}
	}
	share := 1 + rng.Intn(room)
	if rng.Intn(3) == 0 {
		share = room
	}
	return whole(unit, share, core)
}

// someSplit takes ticks of some cores that are not taken there, nor on another one.
func someSplit(rng *rand.Rand, p api.Plan, unit int) place {
	x, own := place{Unit: unit}, uint64(0)
	for _, core := range plan.Cores(p) {
		left := min(plan.Room(p, core), 1+rng.Intn(p.Frame))
		if rng.Intn(3) == 0 {
			continue
		}
		y := at(core)
		for _, tick := range rng.Perm(p.Frame) {
			if (own|plan.Windows(p, core))>>tick%2 == 0 && left > 0 {
				y.Ticks |= 1 << tick
				x.Share++
				left--
			}
		}
		if own |= y.Ticks; y.Ticks != 0 {
			x.Pieces = append(x.Pieces, y)
		}
	}
	if len(x.Pieces) < 2 {
		return place{}
	}
	return x
}

// TestOfAny holds P17.1 for any right plans, and for such in which something was changed.
func TestOfAny(t *testing.T) {
	rng := rand.New(rand.NewSource(171))
	splits, wrong := 0, 0
	for range 3000 {
		p := somePlan(rng)
		if plan.Check(p) != api.OK {
			t.Fatal(p)
		}
		checkOf(t, p)
		splits += plan.Splits(p)
		q := deep(p)
		spoilPlan(rng, &q)
		if checkOf(t, q); plan.Check(q) != api.OK {
			wrong++
		}
	}
	if splits < 1000 || wrong < 500 {
		t.Error(splits, wrong)
	}
}

// spoilPlan changes something of a plan, which may stay a right one.
func spoilPlan(rng *rand.Rand, p *api.Plan) {
	if kind := rng.Intn(8); kind == 0 || len(p.Places) == 0 {
		p.Frame = near(rng, p.Frame)
		return
	} else if kind == 1 {
		p.Cores ^= 1 << rng.Intn(18)
		return
	}
	x := &p.Places[rng.Intn(len(p.Places))]
	switch kind := rng.Intn(6); {
	case kind == 0:
		x.Unit = near(rng, x.Unit)
	case kind == 1:
		x.Share = near(rng, x.Share)
	case kind == 2 || len(x.Pieces) == 0:
		x.Core = near(rng, x.Core)
	case kind == 3:
		x.Pieces[rng.Intn(len(x.Pieces))].Core = near(rng, x.Pieces[0].Core)
	case kind == 4:
		x.Pieces = x.Pieces[1:]
	default:
		x.Pieces[rng.Intn(len(x.Pieces))].Ticks ^= 1 << rng.Intn(64)
	}
}

// near is a number beside another one, or a small or a far one.
func near(rng *rand.Rand, n int) int {
	switch rng.Intn(6) {
	case 0:
		return farNumbers[rng.Intn(len(farNumbers))]
	case 1:
		return rng.Intn(20)
	case 2:
		return rng.Intn(1050)
	}
	return n - 1 + rng.Intn(3)
}

// checkReads holds P17.3 for the tables of a right plan, by the plan's places.
func checkReads(t *testing.T, p api.Plan) {
	t.Helper()
	l, _ := table.Of(p)
	some := append([]int{}, farNumbers...)
	for n := -2; n <= 66; n++ {
		some = append(some, n)
	}
	for _, tick := range some {
		var units []int
		for core := -2; core <= 18; core++ {
			unit := 0
			if core >= 0 && tick >= 0 && tick < p.Frame {
				unit = ownerOf(p, core, tick)
			}
			if got, ok := table.At(l, core, tick); got != unit || ok != (unit != 0) {
				t.Errorf("At(%v, %d, %d): %d, %v; want %d", l, core, tick, got, ok, unit)
			}
			if unit != 0 {
				units = append(units, unit)
			}
		}
		if got := table.Busy(l, tick); !slices.Equal(got, units) {
			t.Errorf("Busy(%v, %d): %v; want %v", l, tick, got, units)
		}
	}
	for _, core := range some {
		if unit, ok := table.At(l, core, 0); ok && (core < 0 || core > 15) {
			t.Errorf("At(%v, %d, 0): %d", l, core, unit)
		}
	}
	for _, x := range l {
		loose := 0
		for tick := range p.Frame {
			if ownerOf(p, x.Core, tick) == 0 {
				loose++
			}
		}
		if got := table.Loose(x); got != loose {
			t.Errorf("Loose(%v): %d; want %d", x, got, loose)
		}
	}
}

// TestReads holds P17.3 for numbers that a test names.
func TestReads(t *testing.T) {
	l := busyTables()
	for _, k := range []struct {
		core, tick, unit int
	}{
		{3, 0, 5}, {3, 1, 0}, {3, 3, 0}, {3, 4, 1001}, {3, 5, 0}, {3, 8, 0}, {3, 9, 5}, {3, 10, 0}, {3, -1, 0},
		{5, 0, 1001}, {5, 1, 1001}, {5, 2, 0}, {7, 0, 0}, {7, 9, 0},
		{15, 0, 0}, {15, 1, 5}, {15, 4, 5}, {15, 5, 1001}, {15, 6, 0}, {15, 10, 0},
		// Cores without a table; 0, 1, 2 and 3 are the places of tables in the list.
		{0, 0, 0}, {1, 0, 0}, {2, 4, 0}, {4, 0, 0}, {14, 1, 0}, {16, 0, 0}, {19, 0, 0}, {-1, 0, 0}, {-3, 0, 0}, {math.MinInt, 0, 0}, {math.MaxInt, 0, 0},
		{3, math.MinInt, 0}, {3, math.MaxInt, 0}, {3, -10, 0}, {3, 64, 0}, {3, 1 << 32, 0}, {math.MaxInt, math.MaxInt, 0}, {-1, -1, 0},
	} {
		if unit, ok := table.At(l, k.core, k.tick); unit != k.unit || ok != (k.unit != 0) {
			t.Errorf("At(%d, %d): %d, %v", k.core, k.tick, unit, ok)
		}
	}
	for i, loose := range []int{7, 8, 10, 5} {
		if got := table.Loose(l[i]); got != loose {
			t.Error(i, got)
		}
	}
	for tick, units := range map[int][]int{
		0: {5, 1001}, 1: {1001, 5}, 2: {5}, 3: {5}, 4: {1001, 5}, 5: {1001}, 6: nil, 7: nil, 8: nil, 9: {5},
		-1: nil, -10: nil, 10: nil, 11: nil, 63: nil, 64: nil, math.MinInt: nil, math.MaxInt: nil,
	} {
		if got := table.Busy(l, tick); !slices.Equal(got, units) {
			t.Error(tick, got)
		}
	}
	checkReads(t, busy())
}

// TestReadsEnds holds P17.3 for a core that is all windows, for the ends of the greatest frame, and for no tables.
func TestReadsEnds(t *testing.T) {
	p := planOf(64, 7, split(1, 64, row(0, 0, 63), at(1, 63)), split(2, 2, at(0, 63), at(2, 0)))
	checkReads(t, p)
	l, _ := table.Of(p)
	if table.Loose(l[0]) != 0 || table.Loose(l[1]) != 63 || table.Loose(l[2]) != 63 {
		t.Error(table.Loose(l[0]), table.Loose(l[1]), table.Loose(l[2]))
	}
	if unit, ok := table.At(l, 0, 63); unit != 2 || !ok {
		t.Error(unit, ok)
	}
	if unit, ok := table.At(l, 0, 64); unit != 0 || ok {
		t.Error(unit, ok)
	}
	if got := table.Busy(l, 63); !slices.Equal(got, []int{2, 1}) {
		t.Error(got)
	}
	for _, p := range []api.Plan{planOf(2, 1), planOf(64, 0xffff), planOf(2, 3, split(7, 2, at(0, 0), at(1, 1))), planOf(2, 1<<15, whole(1, 2, 15))} {
		checkReads(t, p)
	}
	for _, tick := range []int{math.MinInt, -1, 0, 1, math.MaxInt} {
		if unit, ok := table.At(nil, 0, tick); unit != 0 || ok || len(table.Busy(nil, tick)) != 0 {
			t.Error(tick, unit, ok)
		}
	}
	// Sixteen cores in windows of one tick, in the order of the cores, not of the units.
	var places []place
	for i := range 15 {
		places = append(places, split(1+i, 2, at(15-i, 0), at(15, 1+i)))
	}
	places[0] = split(1, 2, at(0, 1), at(15, 0))
	p = planOf(64, 0xffff, places...)
	checkReads(t, p)
	l, _ = table.Of(p)
	if got := table.Busy(l, 0); !slices.Equal(got, []int{15, 14, 13, 12, 11, 10, 9, 8, 7, 6, 5, 4, 3, 2, 1}) {
		t.Error(got)
	}
}

// TestReadsAny holds P17.3 for the tables of any right plans.
func TestReadsAny(t *testing.T) {
	rng := rand.New(rand.NewSource(173))
	for range 1000 {
		checkReads(t, somePlan(rng))
	}
}
