package plan_test

import (
	"math"
	"math/rand"
	"slices"
	"testing"

	"dogwatch/api"
	"dogwatch/plan"
)

type (
	want  = api.Want
	piece = api.Piece
	place = api.Place
)

const allTicks = math.MaxUint64

// farNumbers are neither a frame's ticks, nor a unit, a share or a core; some of them are one in their lowest bits.
var farNumbers = []int{
	math.MinInt, math.MinInt + 1, math.MinInt + 8, -1 << 32, -1<<32 + 1, -1000, -65, -64, -63, -32, -17, -16, -2, -1,
	1 << 16, 1 << 32, 1<<32 + 1, 1<<32 + 8, 1<<40 + 2, math.MaxInt - 1, math.MaxInt,
}

func whole(unit, share, core int) place { return place{Unit: unit, Share: share, Core: core} }

func split(unit, share int, pieces ...piece) place {
	return place{Unit: unit, Share: share, Pieces: pieces}
}

// at is a piece of these ticks.
func at(core int, ticks ...int) piece {
	y := piece{Core: core}
	for _, tick := range ticks {
		y.Ticks |= 1 << tick
	}
	return y
}

// row is a piece of the ticks from one to ahead of another.
func row(core, from, to int) piece {
	y := piece{Core: core}
	for tick := from; tick < to; tick++ {
		y.Ticks |= 1 << tick
	}
	return y
}

func planOf(f int, cores uint32, places ...place) api.Plan {
	return api.Plan{Frame: f, Cores: cores, Places: places}
}

// isUnit tells whether a number is that of a task, or that of a group and 1000.
func isUnit(n int) bool { return n >= 1 && n <= 200 || n >= 1001 && n <= 1040 }

// coresOf are the cores of a plan, and whether it has bits that are none.
func coresOf(p api.Plan) (l []int, others bool) {
	rest := p.Cores
	for core := range 32 {
		if rest%2 == 1 && core < 16 {
			l = append(l, core)
		}
		others = others || rest%2 == 1 && core >= 16
		rest /= 2
	}
	return l, others
}

func hasCore(p api.Plan, core int) bool {
	l, _ := coresOf(p)
	return slices.Contains(l, core)
}

// ticksOf are the ticks of a set, by halving it.
func ticksOf(m uint64) []int {
	var l []int
	for tick := 0; m > 0; tick++ {
		if m%2 == 1 {
			l = append(l, tick)
		}
		m /= 2
	}
	return l
}

// valid is the model of Check: the terms one by one, on lists of ticks in place of bits.
func valid(p api.Plan) bool {
	cores, others := coresOf(p)
	if p.Frame < 2 || p.Frame > 64 || len(cores) == 0 || others {
		return false
	}
	splits := 0
	for i, x := range p.Places {
		if !isUnit(x.Unit) || i > 0 && x.Unit <= p.Places[i-1].Unit || x.Share < 1 || x.Share > p.Frame {
			return false
		}
		if len(x.Pieces) > 0 {
			splits++
		}
		if len(x.Pieces) > 0 && !validPieces(p, x) || len(x.Pieces) == 0 && !slices.Contains(cores, x.Core) {
			return false
		}
	}
	for _, core := range cores {
		if twice, sum := taken(p, core); twice || sum > p.Frame {
			return false
		}
	}
	return splits < len(cores)
}

func validPieces(p api.Plan, x place) bool {
	if x.Core != 0 || len(x.Pieces) < 2 {
		return false
	}
	seen := map[int]bool{}
	for i, y := range x.Pieces {
		if !hasCore(p, y.Core) || i > 0 && y.Core <= x.Pieces[i-1].Core || len(ticksOf(y.Ticks)) == 0 {
			return false
		}
		for _, tick := range ticksOf(y.Ticks) {
			if tick >= p.Frame || seen[tick] {
				return false
			}
			seen[tick] = true
		}
	}
	return len(seen) == x.Share
}

// taken tells of a core whether a tick is in two windows, and how many ticks the windows and those who are whole there have.
func taken(p api.Plan, core int) (twice bool, sum int) {
	var times [64]int
	for _, x := range p.Places {
		if len(x.Pieces) == 0 && x.Core == core {
			sum += x.Share
		}
		for _, y := range x.Pieces {
			for _, tick := range ticksOf(y.Ticks) {
				if y.Core == core {
					times[tick]++
					sum++
					twice = twice || times[tick] > 1
				}
			}
		}
	}
	return twice, sum
}

func TestModel(t *testing.T) {
	p := planOf(4, 3, whole(1, 3, 0), split(2, 3, at(0, 0), at(1, 1, 2)))
	if l, others := coresOf(p); !slices.Equal(l, []int{0, 1}) || others {
		t.Error(l, others)
	}
	if l, others := coresOf(planOf(4, 1<<31|1<<16|1<<15)); !slices.Equal(l, []int{15}) || !others {
		t.Error(l, others)
	}
	if l := ticksOf(1<<63 | 6); !slices.Equal(l, []int{1, 2, 63}) || len(ticksOf(0)) != 0 || len(ticksOf(allTicks)) != 64 {
		t.Error(l)
	}
	if row(3, 1, 4) != at(3, 1, 2, 3) || at(1, 63, 1).Ticks != 1<<63|2 || row(0, 0, 64).Ticks != allTicks || row(2, 5, 5) != at(2) {
		t.Error("pieces")
	}
	for core, n := range []int{4, 2, 0} {
		if twice, sum := taken(p, core); twice || sum != n {
			t.Error(core, twice, sum)
		}
	}
	p.Places = append(p.Places, split(3, 2, at(0, 3), at(1, 2)))
	if twice, sum := taken(p, 1); !twice || sum != 3 {
		t.Error(twice, sum)
	}
	if !isUnit(1) || !isUnit(200) || !isUnit(1001) || !isUnit(1040) || isUnit(0) || isUnit(201) || isUnit(1000) || isUnit(1041) {
		t.Error("units")
	}
}

// checkIs holds Check of a plan, and the model too, against what a test names.
func checkIs(t *testing.T, right bool, p api.Plan) {
	t.Helper()
	if valid(p) != right {
		t.Errorf("the model of %v: %v", p, !right)
	}
	checkModel(t, p)
}

// checkModel holds Check against the model.
func checkModel(t *testing.T, p api.Plan) bool {
	t.Helper()
	right, e := valid(p), api.ErrPlan
	if right {
		e = api.OK
	}
	if got := plan.Check(p); got != e {
		t.Errorf("Check(%v): %d; want %d", p, got, e)
	}
	return right
}

// only holds that a plan is right, and that it is not with another place for one of its own.
func only(t *testing.T, p api.Plan, at int, wrong ...place) {
	t.Helper()
	checkIs(t, true, p)
	for _, x := range wrong {
		q := p
		q.Places = slices.Clone(p.Places)
		q.Places[at] = x
		checkIs(t, false, q)
	}
}

// TestExamples holds the examples of the chapter.
func TestExamples(t *testing.T) {
	p := planOf(4, 3, whole(1, 3, 0), split(2, 3, at(0, 0), at(1, 1, 2)))
	checkIs(t, true, p)
	if plan.Room(p, 0) != 0 || plan.Room(p, 1) != 2 || plan.Free(p) != 2 || plan.Splits(p) != 1 {
		t.Error(plan.Room(p, 0), plan.Room(p, 1), plan.Free(p), plan.Splits(p))
	}
	q := plan.Put(p, whole(1001, 2, 1))
	checkIs(t, true, q)
	if plan.Free(q) != 0 {
		t.Error(plan.Free(q))
	}
	checkIs(t, false, plan.Put(p, whole(1001, 3, 1)))
	checkIs(t, false, plan.Put(p, whole(300, 1, 1)))
}

// TestCheckFrame holds P16.1 for the frame.
func TestCheckFrame(t *testing.T) {
	for f := 2; f <= 64; f++ {
		checkIs(t, true, planOf(f, 1))
		checkIs(t, true, planOf(f, 1, whole(1, 1, 0)))
		checkIs(t, true, planOf(f, 1, whole(1, f, 0)))
		checkIs(t, true, planOf(f, 3, split(1, f, at(0, 0), row(1, 1, f))))
	}
	for _, f := range append([]int{0, 1, 65, 66, 67, 127, 128, 129}, farNumbers...) {
		checkIs(t, false, planOf(f, 1))
		checkIs(t, false, planOf(f, 3))
		checkIs(t, false, planOf(f, 1, whole(1, 1, 0)))
		checkIs(t, false, planOf(f, 1, whole(1, f, 0)))
		checkIs(t, false, planOf(f, 3, split(1, 2, at(0, 0), at(1, 1))))
	}
}

// TestCheckCores holds P16.1 for the cores of a plan.
func TestCheckCores(t *testing.T) {
	checkIs(t, false, planOf(8, 0))
	checkIs(t, false, planOf(8, 0, whole(1, 1, 0)))
	for bit := range 32 {
		right := bit < 16
		checkIs(t, right, planOf(8, 1<<bit))
		checkIs(t, right, planOf(8, 1<<bit, whole(1, 8, bit)))
		checkIs(t, right, planOf(8, 1<<bit|1))
		checkIs(t, right, planOf(8, 1<<bit|1, whole(1, 8, 0)))
		checkIs(t, right, planOf(8, 1<<bit|1<<15, whole(1, 8, 15)))
		checkIs(t, right, planOf(8, 1<<bit|3, split(1, 2, at(0, 0), at(1, 1))))
	}
	checkIs(t, true, planOf(8, 1<<16-1))
	checkIs(t, false, planOf(8, 1<<17-1))
	checkIs(t, false, planOf(8, 1<<16))
	checkIs(t, false, planOf(8, math.MaxUint32))
	checkIs(t, false, planOf(8, math.MaxUint32&^(1<<16-1)))
	checkIs(t, false, planOf(8, 1<<31|1<<15, whole(1, 8, 15)))
}

// TestCheckUnits holds P16.1 for the units: numbers that are some, in strictly ascending order.
func TestCheckUnits(t *testing.T) {
	for unit := -5; unit <= 2100; unit++ {
		checkIs(t, isUnit(unit), planOf(8, 1, whole(unit, 2, 0)))
		checkIs(t, isUnit(unit), planOf(8, 3, split(unit, 2, at(0, 0), at(1, 1))))
	}
	for _, unit := range append([]int{0, 201, 300, 1000, 1041, 1200}, farNumbers...) {
		checkIs(t, false, planOf(8, 1, whole(unit, 2, 0)))
		checkIs(t, false, planOf(8, 3, split(unit, 2, at(0, 0), at(1, 1))))
		checkIs(t, false, planOf(8, 1, whole(1, 1, 0), whole(unit, 2, 0)))
		checkIs(t, false, planOf(8, 1, whole(unit, 2, 0), whole(1040, 1, 0)))
	}
	for _, k := range []struct {
		units []int
		right bool
	}{
		{[]int{1, 2}, true},
		{[]int{2, 1}, false},
		{[]int{1, 200, 1001, 1040}, true},
		{[]int{1001, 200}, false},
		{[]int{1040, 1001}, false},
		{[]int{1, 3, 2}, false},
		{[]int{2, 1, 3}, false},
		{[]int{3, 1, 2}, false},
		{[]int{3, 2, 1}, false},
		{[]int{1, 2, 3, 4, 6, 5}, false},
		// The same one twice.
		{[]int{1, 1}, false},
		{[]int{1040, 1040}, false},
		{[]int{1, 1, 2}, false},
		{[]int{1, 2, 2}, false},
		{[]int{1, 2, 1}, false},
		{[]int{1, 2, 2, 3}, false},
	} {
		var l, apart []place
		for core, unit := range k.units {
			l = append(l, whole(unit, 1, 0))
			apart = append(apart, whole(unit, 1+core, core))
		}
		checkIs(t, k.right, planOf(8, 1, l...))
		checkIs(t, k.right, planOf(8, 63, apart...))
	}
	// Whole here, split there.
	two := split(7, 2, at(0, 0), at(1, 1))
	only(t, planOf(8, 7, whole(6, 1, 2), two), 0, whole(7, 1, 2), whole(8, 1, 2))
	only(t, planOf(8, 7, two, whole(8, 1, 2)), 1, whole(7, 1, 2), whole(6, 1, 2), split(7, 2, at(0, 2), at(1, 3)), split(6, 2, at(0, 2), at(1, 3)))
}

// TestCheckShares holds P16.1 for the shares.
func TestCheckShares(t *testing.T) {
	for f := 2; f <= 64; f++ {
		for share := -1; share <= 66; share++ {
			checkIs(t, share >= 1 && share <= f, planOf(f, 1, whole(1, share, 0)))
			checkIs(t, share >= 1 && share <= f, planOf(f, 3, whole(9, 1, 0), whole(1005, share, 1)))
		}
		only(t, planOf(f, 3, split(1, f, at(0, f-1), row(1, 0, f-1))), 0, split(1, f+1, at(0, f-1), row(1, 0, f-1)), split(1, f-1, at(0, f-1), row(1, 0, f-1)))
	}
	for _, share := range farNumbers {
		only(t, planOf(8, 3, whole(1, 8, 0), whole(2, 8, 1)), 1, whole(2, share, 1))
		only(t, planOf(8, 3, split(1, 2, at(0, 0), at(1, 1))), 0, split(1, share, at(0, 0), at(1, 1)))
		// No number of places makes up for a share that may not be.
		checkIs(t, false, planOf(8, 1, whole(1, share, 0), whole(2, -share, 0), whole(3, 1, 0)))
	}
	checkIs(t, false, planOf(8, 1, whole(1, math.MaxInt, 0), whole(2, math.MaxInt, 0), whole(3, 2, 0)))
	checkIs(t, false, planOf(8, 1, whole(1, 8, 0), whole(2, 1, 0), whole(3, -1, 0)))
	checkIs(t, false, planOf(8, 1, whole(1, 8, 0), whole(2, 0, 0)))
}

// TestCheckWhole holds P16.1 for the core of a whole place.
func TestCheckWhole(t *testing.T) {
	for _, cores := range []uint32{1, 2, 5, 1 << 15, 1<<15 | 1<<7 | 1, 0xaaaa, 0x5555, 0xffff, 0x7fff, 0xfffe} {
		p := planOf(8, cores)
		for core := -3; core <= 70; core++ {
			right := hasCore(p, core)
			checkIs(t, right, planOf(8, cores, whole(1, 1, core)))
			checkIs(t, right, planOf(8, cores, place{Unit: 1, Share: 8, Core: core, Pieces: []piece{}}))
		}
		for _, core := range farNumbers {
			checkIs(t, false, planOf(8, cores, whole(1, 1, core)))
		}
	}
	only(t, planOf(8, 10, whole(1, 2, 1), whole(2, 2, 3), whole(3, 2, 1)), 2, whole(3, 2, 0), whole(3, 2, 2), whole(3, 2, 4), whole(3, 2, -1))
	only(t, planOf(8, 10, whole(1, 2, 1), whole(2, 2, 3), whole(3, 2, 1)), 0, whole(1, 2, 0), whole(1, 2, 2), whole(1, 2, 16), whole(1, 2, 33))
}

// TestCheckSplitCore holds P16.1 for the Core of a split place, which is 0 even where the plan has no core 0.
func TestCheckSplitCore(t *testing.T) {
	pieces := []piece{at(1, 0), at(3, 1)}
	for _, cores := range []uint32{10, 11, 14, 15, 0xffff, 0xfffe} {
		checkIs(t, true, planOf(8, cores, split(1, 2, pieces...)))
		for core := -3; core <= 70; core++ {
			checkIs(t, core == 0, planOf(8, cores, place{Unit: 1, Share: 2, Core: core, Pieces: pieces}))
		}
		for _, core := range farNumbers {
			checkIs(t, false, planOf(8, cores, place{Unit: 1, Share: 2, Core: core, Pieces: pieces}))
		}
	}
}

// TestCheckPieces holds P16.1 for the number of pieces, and their cores.
func TestCheckPieces(t *testing.T) {
	// One piece, the unit's whole share, on whatever core.
	for core := range 4 {
		checkIs(t, false, planOf(8, 15, split(1, 1, at(core, 0))))
		checkIs(t, false, planOf(8, 15, split(1, 3, row(core, 2, 5))))
		checkIs(t, false, planOf(8, 15, split(1, 8, row(core, 0, 8))))
	}
	only(t, planOf(8, 15, split(1, 2, at(0, 0), at(1, 1))), 0, split(1, 2, at(0, 0, 1)), split(1, 2, at(1, 0, 1)))
	// Two pieces on any two cores.
	for a := -2; a <= 18; a++ {
		for b := -2; b <= 18; b++ {
			checkIs(t, a >= 0 && a < b && b <= 15, planOf(8, 0xffff, split(1, 2, at(a, 0), at(b, 1))))
			checkModel(t, planOf(8, 0x8421, split(1, 3, at(a, 3), at(b, 0, 1))))
		}
		for _, b := range farNumbers {
			checkIs(t, false, planOf(8, 0xffff, split(1, 2, at(a, 0), at(b, 1))))
			checkIs(t, false, planOf(8, 0xffff, split(1, 2, at(b, 0), at(a, 1))))
		}
	}
	// More pieces.
	only(t, planOf(8, 0x8429, split(1, 4, at(0, 3), at(3, 1), at(5, 0), at(15, 2))), 0,
		split(1, 4, at(3, 1), at(0, 3), at(5, 0), at(15, 2)),
		split(1, 4, at(0, 3), at(5, 0), at(3, 1), at(15, 2)),
		split(1, 4, at(0, 3), at(3, 1), at(15, 2), at(5, 0)),
		split(1, 4, at(0, 3), at(3, 1), at(3, 0), at(15, 2)),
		split(1, 4, at(0, 3), at(3, 1), at(5, 0), at(5, 2)),
		split(1, 4, at(0, 3), at(0, 1), at(5, 0), at(15, 2)),
		split(1, 4, at(0, 3), at(3, 1), at(5, 0), at(0, 2)),
		split(1, 4, at(1, 3), at(3, 1), at(5, 0), at(15, 2)),
		split(1, 4, at(0, 3), at(3, 1), at(6, 0), at(15, 2)),
		split(1, 4, at(0, 3), at(3, 1), at(5, 0), at(14, 2)),
		split(1, 4, at(0, 3), at(3, 1), at(5, 0), at(16, 2)),
		split(1, 4, at(-1, 3), at(3, 1), at(5, 0), at(15, 2)),
	)
	var all []piece
	for core := range 16 {
		all = append(all, at(core, core*4))
	}
	only(t, planOf(64, 0xffff, split(1, 16, all...)), 0, split(1, 17, append(slices.Clone(all), at(16, 63))...), split(1, 32, append(slices.Clone(all), all...)...))
	checkIs(t, false, planOf(64, 0xfffe, split(1, 16, all...)))
	checkIs(t, false, planOf(64, 0x7fff, split(1, 16, all...)))
	checkIs(t, false, planOf(64, 0xffff, split(1, 16, slices.Repeat(all, 5000)...)))
}

// TestCheckTicks holds P16.1 for the ticks of pieces.
func TestCheckTicks(t *testing.T) {
	// Empty ones, with a Share of as many as there are.
	only(t, planOf(8, 7, split(1, 3, at(0, 0), at(1, 1), at(2, 2))), 0,
		split(1, 2, at(0), at(1, 1), at(2, 2)),
		split(1, 2, at(0, 0), at(1), at(2, 2)),
		split(1, 2, at(0, 0), at(1, 1), at(2)),
		split(1, 1, at(0, 0), at(1), at(2)),
	)
	only(t, planOf(8, 7, split(1, 2, at(0, 0), at(1, 1))), 0, split(1, 1, at(0, 0), at(1)), split(1, 1, at(0), at(1, 1)), split(1, 0, at(0), at(1)), split(1, 2, at(0), at(1)))
	// Beyond the frame, one by one and all of them; at a frame of 64 nothing is.
	for f := 2; f <= 64; f++ {
		for tick := 1; tick < 64; tick++ {
			checkIs(t, tick < f, planOf(f, 3, split(1, 2, at(0, 0), at(1, tick))))
			checkIs(t, tick < f, planOf(f, 3, split(1, 2, at(0, tick), at(1, 0))))
		}
		checkIs(t, f == 64, planOf(f, 3, split(1, f, at(0, 0), piece{Core: 1, Ticks: allTicks &^ 1})))
		checkIs(t, f == 64, planOf(f, 3, split(1, 64, at(0, 0), piece{Core: 1, Ticks: allTicks &^ 1})))
	}
	// Shared by two pieces, with a Share of as many as there are, or as they count.
	only(t, planOf(8, 7, split(1, 4, at(0, 0, 4), at(1, 1), at(2, 2))), 0,
		split(1, 4, at(0, 0, 1), at(1, 1), at(2, 2)), split(1, 3, at(0, 0, 1), at(1, 1), at(2, 2)),
		split(1, 4, at(0, 0, 2), at(1, 1), at(2, 2)), split(1, 3, at(0, 0, 2), at(1, 1), at(2, 2)),
		split(1, 4, at(0, 0), at(1, 1, 2), at(2, 2)), split(1, 3, at(0, 0), at(1, 1, 2), at(2, 2)),
		split(1, 3, at(0, 0), at(1, 0), at(2, 0)), split(1, 1, at(0, 0), at(1, 0), at(2, 0)),
	)
	only(t, planOf(64, 3, split(1, 64, row(0, 0, 32), row(1, 32, 64))), 0, split(1, 64, row(0, 0, 33), row(1, 32, 64)), split(1, 64, row(0, 0, 32), row(1, 31, 64)))
	// Not as many as the Share says.
	for share := -2; share <= 65; share++ {
		checkIs(t, share == 5, planOf(64, 3, split(1, share, at(0, 0, 63), at(1, 1, 40, 41))))
		checkIs(t, share == 64, planOf(64, 3, split(1, share, row(0, 0, 32), row(1, 32, 64))))
	}
}

// TestCheckWindows holds P16.1 for windows of a core that two units share.
func TestCheckWindows(t *testing.T) {
	p := planOf(8, 15, split(1, 2, at(0, 0), at(1, 1)), split(2, 2, at(0, 1), at(1, 0)))
	only(t, p, 1,
		split(2, 2, at(0, 0), at(1, 2)),
		split(2, 2, at(0, 2), at(1, 1)),
		split(2, 2, at(0, 0), at(2, 1)),
		split(2, 2, at(1, 1), at(2, 0)),
		split(2, 3, at(0, 0, 7), at(3, 6)),
		split(2, 4, at(0, 5, 6, 7), at(1, 1)),
	)
	// The same ticks on other cores, or others on the same core.
	for _, x := range []place{split(2, 2, at(2, 0), at(3, 1)), split(2, 2, at(1, 0), at(2, 1)), split(2, 6, at(0, 1, 2, 3), at(1, 5, 6, 7))} {
		q := p
		q.Places = []place{p.Places[0], x}
		checkIs(t, true, q)
	}
	// Of three units the first and the last.
	only(t, planOf(8, 15, split(1, 2, at(0, 0), at(3, 1)), split(2, 2, at(0, 1), at(2, 0)), split(3, 2, at(0, 2), at(3, 0))), 2, split(3, 2, at(0, 0), at(1, 1)), split(3, 2, at(1, 0), at(3, 1)))
	for a := range 8 {
		for b := range 8 {
			checkIs(t, a != b, planOf(8, 15, split(1, 2, at(2, (a+1)%8), at(3, a)), split(2, 2, at(0, (b+1)%8), at(3, b))))
		}
	}
}

// TestCheckLoad holds P16.1 for the windows and the Shares of a core together.
func TestCheckLoad(t *testing.T) {
	for f := 2; f <= 64; f++ {
		for share := 1; share <= f; share++ {
			// Those who are whole alone: f - 1, f and f + 1, on the first, a middle and the last core.
			for _, core := range []int{0, 7, 15} {
				checkIs(t, share <= f, planOf(f, 0xffff, whole(1, share, core)))
				checkIs(t, true, planOf(f, 0xffff, whole(1, share, core), whole(9, f-share+1, (core+1)%16)))
				for more := max(1, f-share-1); more <= f-share+1; more++ {
					checkIs(t, share+more <= f, planOf(f, 0xffff, whole(1, share, core), whole(9, more, core)))
				}
			}
			// One window, and one who is whole.
			for _, n := range []int{1, 2, f / 2, f - 1} {
				if n >= 1 && n < f {
					checkIs(t, n+share <= f, planOf(f, 3, split(1, n+1, row(0, 0, n), at(1, n)), whole(2, share, 0)))
					checkIs(t, 1+share <= f, planOf(f, 3, split(1, n+1, row(0, 0, n), at(1, n)), whole(2, share, 1)))
				}
			}
		}
	}
	// Two windows, and two who are whole.
	for a := 1; a <= 7; a++ {
		for b := 1; b <= 7; b++ {
			l := []place{whole(1, a, 5), split(2, 3, at(2, 7), at(5, 1, 2)), split(3, 3, at(2, 4), at(5, 0, 3)), whole(4, b, 5)}
			checkIs(t, a+b <= 4, planOf(8, 1<<5|1<<2|1<<3, l...))
			l[3].Core = 3
			checkIs(t, a <= 4, planOf(8, 1<<5|1<<2|1<<3, l...))
		}
	}
	// Windows of all ticks leave nothing.
	full := []place{split(1, 4, row(0, 0, 3), at(1, 3)), split(2, 2, at(0, 3), at(1, 1))}
	checkIs(t, true, planOf(4, 7, full...))
	checkIs(t, true, planOf(4, 7, append(slices.Clone(full), whole(3, 2, 1), whole(4, 4, 2))...))
	checkIs(t, false, planOf(4, 7, append(slices.Clone(full), whole(3, 1, 0))...))
	checkIs(t, false, planOf(4, 7, append(slices.Clone(full), whole(3, 3, 1))...))
}

// TestCheckLoads holds that one core with too much is found among all, and that many small shares add up.
func TestCheckLoads(t *testing.T) {
	for core := range 16 {
		var l []place
		for c := range 16 {
			l = append(l, whole(1+c, 64, c))
		}
		checkIs(t, true, planOf(64, 0xffff, l...))
		checkIs(t, false, planOf(64, 0xffff, append(slices.Clone(l), whole(1001, 1, core))...))
		l[core].Share--
		checkIs(t, true, planOf(64, 0xffff, append(slices.Clone(l), whole(1001, 1, core))...))
		checkIs(t, false, planOf(64, 0xffff, append(slices.Clone(l), whole(1001, 1, core), whole(1002, 1, core))...))
	}
	var l []place
	for unit := 1; unit <= 200; unit++ {
		l = append(l, whole(unit, 1, unit%4))
	}
	for unit := 1001; unit <= 1040; unit++ {
		l = append(l, whole(unit, 1, unit%4))
	}
	checkIs(t, true, planOf(64, 15, l...))
	checkIs(t, true, planOf(60, 15, l...))
	checkIs(t, false, planOf(59, 15, l...))
	checkIs(t, true, planOf(59, 15, l[:236]...))
	checkIs(t, false, planOf(64, 15, append(slices.Clone(l), whole(1041, 1, 0))...))
	checkIs(t, false, planOf(64, 15, slices.Repeat(l, 2000)...))
}

// TestCheckSplits holds P16.1 for the number of split places: fewer than cores.
func TestCheckSplits(t *testing.T) {
	checkIs(t, false, planOf(64, 1, split(1, 2, at(0, 0), at(1, 1))))
	for n := 2; n <= 16; n++ {
		for _, low := range []int{0, 16 - n} {
			var l []place
			for i := range 17 {
				l = append(l, split(1+i, 2, at(low, 2*i), at(low+n-1, 2*i+1)))
			}
			cores := uint32(1<<n-1) << low
			for splits := range l {
				checkIs(t, splits < n, planOf(64, cores, l[:splits]...))
			}
			// Whole places do not count, nor do pieces.
			some := append(slices.Clone(l[:n-1]), whole(1001, 1, low), whole(1002, 1, low), whole(1003, 1, low+1), whole(1004, 1, low))
			checkIs(t, true, planOf(64, cores, some...))
			checkIs(t, false, planOf(64, cores, append(slices.Clone(l[:n]), some[n-1:]...)...))
		}
	}
	three := []place{split(1, 3, at(0, 0), at(1, 1), at(2, 2)), split(2, 3, at(0, 1), at(1, 2), at(2, 3)), split(3, 3, at(0, 2), at(1, 3), at(2, 0))}
	checkIs(t, true, planOf(4, 7, three[:2]...))
	checkIs(t, false, planOf(4, 7, three...))
	checkIs(t, true, planOf(4, 15, three...))
}

// fewPlaces are places of a unit, right ones and wrong ones, on the cores 0 to 2 in a frame of 2 or 3 ticks.
func fewPlaces(unit int) []place {
	var l []place
	for share := range 5 {
		for core := range 4 {
			l = append(l, whole(unit, share, core))
		}
	}
	for m := range uint64(16) {
		for n := range uint64(16) {
			a, b := ticksOf(m), ticksOf(n)
			if len(a)+len(b) > 3 {
				continue
			}
			l = append(l, split(unit, len(a)+len(b), at(0, a...), at(1, b...)), split(unit, len(a)+len(b), at(1, a...), at(2, b...)))
		}
	}
	return append(l, split(unit, 2, at(1, 0), at(0, 1)), split(unit, 1, at(0, 0)), place{Unit: unit, Share: 2, Core: 1, Pieces: []piece{at(0, 0), at(1, 1)}}, split(unit, 3, at(0, 0), at(1, 1), at(2, 2)))
}

// TestCheckFew holds P16.1 for all plans of at most two units with few ticks and cores.
func TestCheckFew(t *testing.T) {
	right := 0
	for _, f := range []int{2, 3} {
		for cores := uint32(1); cores < 8; cores++ {
			for _, a := range fewPlaces(1) {
				if !checkModel(t, planOf(f, cores, a)) {
					continue
				}
				for _, b := range fewPlaces(2) {
					if checkModel(t, planOf(f, cores, a, b)) {
						right++
					}
				}
			}
		}
	}
	if right < 1000 {
		t.Error(right)
	}
}

// someCores are from one to sixteen.
func someCores(rng *rand.Rand) uint32 {
	cores := uint32(1 + rng.Intn(1<<16-1))
	for range rng.Intn(3) {
		if less := cores & uint32(rng.Intn(1<<16)); less != 0 {
			cores = less
		}
	}
	return cores
}

// somePlan is a right one: places of random units are put on where there is room, often up to the last tick.
func somePlan(rng *rand.Rand) api.Plan {
	p := planOf(2+rng.Intn(63), someCores(rng))
	if rng.Intn(3) == 0 {
		p.Frame = 2 + rng.Intn(6)
	}
	for range rng.Intn(30) {
		unit := 1 + rng.Intn(200)
		if rng.Intn(3) == 0 {
			unit = 1001 + rng.Intn(40)
		}
		if x := somePlace(rng, p, unit); x.Unit > 0 {
			p.Places = append(p.Places, x)
		}
	}
	slices.SortFunc(p.Places, func(a, b place) int { return a.Unit - b.Unit })
	return p
}

// somePlace is one that may be put to a plan, or one of no unit if there is none.
func somePlace(rng *rand.Rand, p api.Plan, unit int) place {
	splits := 0
	for _, x := range p.Places {
		if x.Unit == unit {
			return place{}
		}
		splits += min(1, len(x.Pieces))
	}
	cores, _ := coresOf(p)
	if rng.Intn(2) == 0 && splits < len(cores)-1 {
		return someSplit(rng, p, unit, cores)
	}
	core := cores[rng.Intn(len(cores))]
	_, sum := taken(p, core)
	if sum == p.Frame {
		return place{}
	}
	share := 1 + rng.Intn(p.Frame-sum)
	if rng.Intn(3) == 0 {
		share = p.Frame - sum
	}
	return whole(unit, share, core)
}

// someSplit takes ticks of some cores that are not taken there, nor on another one.
func someSplit(rng *rand.Rand, p api.Plan, unit int, cores []int) place {
	x, own := place{Unit: unit}, uint64(0)
	for _, core := range cores {
		if rng.Intn(3) == 0 {
			continue
		}
		_, sum := taken(p, core)
		windows := own
		for _, y := range piecesOn(p, core) {
			windows |= y
		}
		y, most := piece{Core: core}, 1+rng.Intn(p.Frame)
		for _, tick := range rng.Perm(p.Frame) {
			if n := len(ticksOf(y.Ticks)); windows&(1<<tick) == 0 && n+sum < p.Frame && n < most {
				y.Ticks |= 1 << tick
			}
		}
		if own |= y.Ticks; y.Ticks != 0 {
			x.Pieces = append(x.Pieces, y)
		}
	}
	if x.Share = len(ticksOf(own)); len(x.Pieces) < 2 {
		return place{}
	}
	return x
}

// piecesOn are the ticks of each piece on a core.
func piecesOn(p api.Plan, core int) []uint64 {
	var l []uint64
	for _, x := range p.Places {
		for _, y := range x.Pieces {
			if y.Core == core {
				l = append(l, y.Ticks)
			}
		}
	}
	return l
}

// near is a number beside another one, or a small or a far one.
func near(rng *rand.Rand, n int) int {
	switch rng.Intn(6) {
	case 0:
		return farNumbers[rng.Intn(len(farNumbers))]
	case 1:
		return rng.Intn(20)
	case 2:
		return rng.Intn(1050)
	}
	return n - 1 + rng.Intn(3)
}

// spoil changes something of a plan, which may stay a right one.
func spoil(rng *rand.Rand, p *api.Plan) {
	switch kind := rng.Intn(10); {
	case kind == 0:
		p.Frame = near(rng, p.Frame)
	case kind == 1:
		p.Cores ^= 1 << rng.Intn(17)
	case len(p.Places) == 0:
	case kind == 2:
		i, j := rng.Intn(len(p.Places)), rng.Intn(len(p.Places))
		p.Places[i], p.Places[j] = p.Places[j], p.Places[i]
	case kind == 3:
		i, j := rng.Intn(len(p.Places)), rng.Intn(len(p.Places))
		p.Places[i].Unit, p.Places[j].Unit = p.Places[j].Unit, p.Places[i].Unit
	case kind == 4:
		i := rng.Intn(len(p.Places))
		p.Places = slices.Insert(p.Places, i, p.Places[rng.Intn(len(p.Places))])
	default:
		spoilPlace(rng, &p.Places[rng.Intn(len(p.Places))])
	}
}

func spoilPlace(rng *rand.Rand, x *place) {
	switch kind := rng.Intn(9); {
	case kind == 0:
		x.Unit = near(rng, x.Unit)
	case kind == 1:
		x.Share = near(rng, x.Share)
	case kind == 2:
		x.Core = near(rng, x.Core)
	case kind == 3:
		x.Pieces = append(x.Pieces, piece{Core: rng.Intn(17), Ticks: rng.Uint64() >> rng.Intn(64)})
	case len(x.Pieces) == 0:
		x.Share++
	case kind == 4:
		x.Pieces = x.Pieces[:rng.Intn(len(x.Pieces))]
	case kind == 5:
		i, j := rng.Intn(len(x.Pieces)), rng.Intn(len(x.Pieces))
		x.Pieces[i], x.Pieces[j] = x.Pieces[j], x.Pieces[i]
	case kind == 6:
		i := rng.Intn(len(x.Pieces))
		x.Pieces[i].Core = near(rng, x.Pieces[i].Core)
	default:
		// Each tick is one more or one fewer, so that the Share is right again half of the time.
		for range 1 + rng.Intn(2) {
			x.Pieces[rng.Intn(len(x.Pieces))].Ticks ^= 1 << rng.Intn(64)
		}
		if rng.Intn(2) == 0 {
			x.Share = 0
			for _, y := range x.Pieces {
				x.Share += len(ticksOf(y.Ticks))
			}
		}
	}
}

// TestCheckAny holds P16.1 for any right plans, and for such in which something was changed.
func TestCheckAny(t *testing.T) {
	rng := rand.New(rand.NewSource(161))
	right, wrong := 0, 0
	for range 3000 {
		p := somePlan(rng)
		checkIs(t, true, p)
		for range 8 {
			q := deep(p)
			for range 1 + rng.Intn(2) {
				spoil(rng, &q)
			}
			if checkModel(t, q) {
				right++
			} else {
				wrong++
			}
		}
	}
	if right < 1000 || wrong < 1000 {
		t.Error(right, wrong)
	}
}

// TestSamePlace holds P16.1's SamePlace.
func TestSamePlace(t *testing.T) {
	l := []place{
		{},
		whole(1, 3, 2), whole(2, 3, 2), whole(1, 4, 2), whole(1, 3, 3), whole(1, 3, 0), whole(-1, 3, 2), whole(1, -3, 2), whole(1, 3, -2),
		whole(math.MaxInt, math.MinInt, math.MaxInt), whole(math.MinInt, math.MinInt, math.MaxInt), whole(math.MaxInt, math.MaxInt, math.MaxInt), whole(math.MaxInt, math.MinInt, math.MinInt),
		split(1, 3, at(0, 0, 1), at(2, 2)), split(2, 3, at(0, 0, 1), at(2, 2)), split(1, 4, at(0, 0, 1), at(2, 2)),
		{Unit: 1, Share: 3, Core: 2, Pieces: []piece{at(0, 0, 1), at(2, 2)}},
		split(1, 3, at(1, 0, 1), at(2, 2)), split(1, 3, at(0, 0, 1), at(3, 2)), split(1, 3, at(-1, 0, 1), at(2, 2)),
		split(1, 3, at(0, 0, 2), at(2, 2)), split(1, 3, at(0, 0, 1), at(2, 3)), split(1, 3, at(0, 0, 1), at(2)), split(1, 3, at(0), at(2, 2)),
		split(1, 3, at(0, 0, 1, 63), at(2, 2)), split(1, 3, at(0, 0, 1), at(2, 2, 63)),
		// The order of the pieces, and their number.
		split(1, 3, at(2, 2), at(0, 0, 1)), split(1, 3, at(0, 0, 1)), split(1, 3, at(2, 2)), split(1, 3, at(0, 0, 1), at(2, 2), at(3, 3)), split(1, 3, at(0, 0, 1), at(2, 2), at(0)),
		split(1, 3, at(0, 0, 1), at(0, 0, 1), at(2, 2)), split(1, 3, at(0)),
	}
	for i, a := range l {
		for j, b := range l {
			b.Pieces = slices.Clone(b.Pieces)
			if got := plan.SamePlace(a, b); got != (i == j) {
				t.Errorf("%v and %v: %v", a, b, got)
			}
		}
	}
	none := whole(1, 3, 2)
	empty, spare := none, none
	empty.Pieces, spare.Pieces = []piece{}, []piece{at(1, 1)}[:0]
	for _, a := range []place{none, empty, spare} {
		for _, b := range []place{none, empty, spare} {
			if !plan.SamePlace(a, b) || !plan.Same(planOf(8, 4, a), planOf(8, 4, b)) {
				t.Errorf("%v and %v", a, b)
			}
		}
	}
}

// TestSame holds P16.1's Same, for plans that need not be right.
func TestSame(t *testing.T) {
	one, other, two := whole(1, 3, 0), whole(1, 3, 1), split(2, 3, at(0, 0, 1), at(1, 2))
	l := []api.Plan{
		{},
		planOf(8, 3), planOf(9, 3), planOf(-8, 3), planOf(8, 2), planOf(8, 1<<31|3), planOf(math.MaxInt, 3), planOf(math.MinInt, 3), planOf(8, 0),
		planOf(8, 3, one), planOf(9, 3, one), planOf(8, 7, one), planOf(8, 3, other), planOf(8, 3, whole(2, 3, 0)), planOf(8, 3, whole(1, 2, 0)),
		planOf(8, 3, two), planOf(8, 3, one, two), planOf(9, 3, one, two), planOf(8, 1, one, two), planOf(8, 3, other, two),
		// The order of the places, and their number.
		planOf(8, 3, two, one), planOf(8, 3, one, one), planOf(8, 3, two, two), planOf(8, 3, one, two, two), planOf(8, 3, one, one, two), planOf(8, 3, one, two, whole(3, 1, 1)), planOf(8, 3, place{}),
		planOf(8, 3, one, split(2, 3, at(0, 0, 1), at(1, 3))), planOf(8, 3, one, split(2, 3, at(0, 0, 1), at(2, 2))), planOf(8, 3, one, split(2, 4, at(0, 0, 1), at(1, 2))),
		planOf(8, 3, one, split(2, 3, at(1, 2), at(0, 0, 1))), planOf(8, 3, one, split(2, 3, at(0, 0, 1))), planOf(8, 3, one, whole(2, 3, 0)), planOf(8, 3, one, split(2, 3, at(0, 0, 1), at(1, 2), at(2, 3))),
	}
	for i, a := range l {
		for j, b := range l {
			if got := plan.Same(a, deep(b)); got != (i == j) {
				t.Errorf("%v and %v: %v", a, b, got)
			}
		}
	}
	empty := planOf(8, 3)
	empty.Places = []place{}
	spare := planOf(8, 3, one)
	spare.Places = spare.Places[:0]
	for _, a := range []api.Plan{planOf(8, 3), empty, spare} {
		for _, b := range []api.Plan{planOf(8, 3), empty, spare} {
			if !plan.Same(a, b) {
				t.Errorf("%v and %v", a, b)
			}
		}
	}
}

// TestSameAny holds P16.1's Same for any plans, and for such in which something was changed.
func TestSameAny(t *testing.T) {
	rng := rand.New(rand.NewSource(162))
	same, apart := 0, 0
	for range 5000 {
		p := somePlan(rng)
		q := deep(p)
		spoil(rng, &q)
		alike := samePlan(p, q)
		if alike {
			same++
		} else {
			apart++
		}
		if plan.Same(p, q) != alike || plan.Same(q, p) != alike || !plan.Same(p, deep(p)) || !plan.Same(q, q) {
			t.Errorf("%v and %v: %v", p, q, plan.Same(p, q))
		}
		for i := range min(len(p.Places), len(q.Places)) {
			a, b := p.Places[i], q.Places[i]
			if plan.SamePlace(a, b) != samePlan(planOf(8, 1, a), planOf(8, 1, b)) {
				t.Errorf("%v and %v: %v", a, b, plan.SamePlace(a, b))
			}
		}
	}
	if same < 100 || apart < 1000 {
		t.Error(same, apart)
	}
}
