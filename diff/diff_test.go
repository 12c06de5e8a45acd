package diff_test

import (
	"math"
	"math/bits"
	"math/rand"
	"reflect"
	"slices"
	"testing"

	"dogwatch/api"
	"dogwatch/diff"
	"dogwatch/plan"
)

type (
	piece = api.Piece
	place = api.Place
)

// farNumbers are no ticks of a frame, units, shares or cores; some of them are one in their lowest bits.
var farNumbers = []int{
	math.MinInt, math.MinInt + 1, math.MinInt + 4, -1 << 32, -1<<32 + 1, -1000, -65, -64, -17, -16, -2, -1,
	1 << 16, 1 << 32, 1<<32 + 1, 1<<32 + 4, 1<<40 + 2, math.MaxInt - 1, math.MaxInt,
}

func whole(unit, share, core int) place { return place{Unit: unit, Share: share, Core: core} }

// split is a place of these pieces, whose Share is their ticks.
func split(unit int, pieces ...piece) place {
	x := place{Unit: unit, Pieces: pieces}
	for _, y := range pieces {
		x.Share += bits.OnesCount64(y.Ticks)
	}
	return x
}

// at is a piece of these ticks.
func at(core int, ticks ...int) piece {
	y := piece{Core: core}
	for _, tick := range ticks {
		y.Ticks |= 1 << tick
	}
	return y
}

// span is a piece of the ticks from one to ahead of another.
func span(core, from, to int) piece {
	y := piece{Core: core}
	for tick := from; tick < to; tick++ {
		y.Ticks |= 1 << tick
	}
	return y
}

func planOf(f int, cores uint32, places ...place) api.Plan {
	return api.Plan{Frame: f, Cores: cores, Places: places}
}

// with is a plan with further places, in the order of their units.
func with(p api.Plan, places ...place) api.Plan {
	p = deep(p)
	p.Places = append(p.Places, places...)
	slices.SortFunc(p.Places, func(a, b place) int { return a.Unit - b.Unit })
	return p
}

// without is a plan without some units.
func without(p api.Plan, units ...int) api.Plan {
	p = deep(p)
	p.Places = slices.DeleteFunc(p.Places, func(x place) bool { return slices.Contains(units, x.Unit) })
	return p
}

// deepPlace is a place that shares no memory with another one; what is empty is nil.
func deepPlace(x place) place {
	x.Pieces = append([]piece(nil), x.Pieces...)
	return x
}

func deep(p api.Plan) api.Plan {
	var places []place
	for _, x := range p.Places {
		places = append(places, deepPlace(x))
	}
	p.Places = places
	return p
}

func samePlace(a, b place) bool { return reflect.DeepEqual(deepPlace(a), deepPlace(b)) }

func samePlan(a, b api.Plan) bool { return reflect.DeepEqual(deep(a), deep(b)) }

// find is a unit's place, a zero value where there is none.
func find(p api.Plan, unit int) (place, bool) {
	for _, x := range p.Places {
		if x.Unit == unit {
			return x, true
		}
	}
	return place{}, false
}

// unitsOf are the units of two plans, each once, rising.
func unitsOf(a, b api.Plan) []int {
	var l []int
	for _, x := range append(deep(a).Places, b.Places...) {
		l = append(l, x.Unit)
	}
	slices.Sort(l)
	return slices.Compact(l)
}

// coresOf are the cores of a unit by the document's words.
func coresOf(x place) []int {
	if len(x.Pieces) == 0 {
		return []int{x.Core}
	}
	var cores []int
	for _, y := range x.Pieces {
		cores = append(cores, y.Core)
	}
	return cores
}

// inWindow tells whether a tick belongs to a window of a unit on a core.
func inWindow(x place, core, tick int) bool {
	for _, y := range x.Pieces {
		if y.Core == core && y.Ticks>>tick%2 == 1 {
			return true
		}
	}
	return false
}

// shiftOf is how many ticks are in a window of one of two places, and not of the other.
func shiftOf(x, y place) int {
	ticks := 0
	for core := range 16 {
		for tick := range 64 {
			if inWindow(x, core, tick) != inWindow(y, core, tick) {
				ticks++
			}
		}
	}
	return ticks
}

// answers are what two plans are told apart by.
type answers struct {
	moved, came, gone, resized []int
	shift                      int
}

// answersOf is the model of Moved, Came, Gone, Resized and Shift.
func answersOf(a, b api.Plan) answers {
	var l answers
	for _, unit := range unitsOf(a, b) {
		was, inA := find(a, unit)
		now, inB := find(b, unit)
		shift := shiftOf(was, now)
		l.shift += shift
		if inA && inB && (!slices.Equal(coresOf(was), coresOf(now)) || shift > 0) {
			l.moved = append(l.moved, unit)
		}
		if inB && !inA {
			l.came = append(l.came, unit)
		}
		if inA && !inB {
			l.gone = append(l.gone, unit)
		}
		if inA && inB && was.Share != now.Share {
			l.resized = append(l.resized, unit)
		}
	}
	return l
}

func sameAnswers(a, b answers) bool {
	return slices.Equal(a.moved, b.moved) && slices.Equal(a.came, b.came) && slices.Equal(a.gone, b.gone) && slices.Equal(a.resized, b.resized) && a.shift == b.shift
}

// told is what the package answers.
func told(a, b api.Plan) answers {
	return answers{diff.Moved(a, b), diff.Came(a, b), diff.Gone(a, b), diff.Resized(a, b), diff.Shift(a, b)}
}

// checkWho holds P22.1 and P22.3 for two right plans, and of P22.4 what is said of them.
func checkWho(t *testing.T, a, b api.Plan) {
	t.Helper()
	if plan.Check(a) != api.OK || plan.Check(b) != api.OK {
		t.Fatalf("%v or %v is not right", a, b)
	}
	wasA, wasB := deep(a), deep(b)
	there, back := told(a, b), told(b, a)
	if right := answersOf(a, b); !sameAnswers(there, right) {
		t.Errorf("%v to %v: %v; want %v", a, b, there, right)
	}
	if right := (answers{there.moved, there.gone, there.came, there.resized, there.shift}); !sameAnswers(back, right) {
		t.Errorf("%v to %v: %v; want %v", b, a, back, right)
	}
	if self := told(a, a); !sameAnswers(self, answers{}) {
		t.Errorf("%v to itself: %v", a, self)
	}
	if !samePlan(a, wasA) || !samePlan(b, wasB) {
		t.Errorf("%v and %v became %v and %v", wasA, wasB, a, b)
	}
}

// whoIs holds the package, and the model too, against answers that a test names, and all else that is promised of two plans.
func whoIs(t *testing.T, a, b api.Plan, right answers) {
	t.Helper()
	checkWho(t, a, b)
	if got := told(a, b); !sameAnswers(got, right) {
		t.Errorf("%v to %v: %v; want %v", a, b, got, right)
	}
	checkChanges(t, a, b)
	checkChanges(t, b, a)
}

// TestExamples holds the example of the chapter.
func TestExamples(t *testing.T) {
	a := planOf(4, 3, whole(1, 2, 0), whole(2, 1, 0), split(4, at(0, 0), at(1, 1)))
	b := planOf(4, 3, whole(1, 1, 0), whole(3, 1, 0), whole(4, 2, 1))
	whoIs(t, a, b, answers{moved: []int{4}, came: []int{3}, gone: []int{2}, resized: []int{1}, shift: 2})
	changesAre(t, a, b,
		diff.Change{Unit: 1, Was: whole(1, 2, 0), Now: whole(1, 1, 0)},
		diff.Change{Unit: 2, Was: whole(2, 1, 0)},
		diff.Change{Unit: 3, Now: whole(3, 1, 0)},
		diff.Change{Unit: 4, Was: split(4, at(0, 0), at(1, 1)), Now: whole(4, 2, 1)},
	)
}

// TestNone holds the promises for plans without places, on either side and on both.
func TestNone(t *testing.T) {
	for _, cores := range []uint32{1, 1 << 15, 3, 0x8001, 0xffff} {
		for _, f := range []int{2, 9, 64} {
			none := planOf(f, cores)
			whoIs(t, none, none, answers{})
			whoIs(t, none, planOf(f, cores, []place{}...), answers{})
			whoIs(t, none, planOf(64, 1<<7), answers{})
			whoIs(t, none, planOf(8, 3, whole(7, 8, 1)), answers{came: []int{7}})
			whoIs(t, planOf(8, 3, whole(1007, 8, 1)), none, answers{gone: []int{1007}})
			all := planOf(8, 7, whole(1, 2, 0), split(5, at(1, 0, 1), at(2, 7)), whole(200, 1, 2), whole(1001, 5, 1), split(1040, at(0, 3), at(2, 4, 5)))
			whoIs(t, none, all, answers{came: []int{1, 5, 200, 1001, 1040}, shift: 6})
			whoIs(t, all, none, answers{gone: []int{1, 5, 200, 1001, 1040}, shift: 6})
		}
	}
}

// TestSelf holds the promises for a plan and itself: the same memory, and another.
func TestSelf(t *testing.T) {
	for _, p := range []api.Plan{
		planOf(2, 1, whole(1, 2, 0)), planOf(64, 1<<15, whole(1040, 64, 15)), planOf(4, 3, split(4, at(0, 0), at(1, 1))),
		planOf(8, 7, whole(1, 2, 0), split(5, at(1, 0, 1), at(2, 7)), whole(200, 1, 2), whole(1001, 5, 1)),
		manySplits(16, 0), manySplits(64, 5),
	} {
		whoIs(t, p, p, answers{})
		whoIs(t, p, deep(p), answers{})
	}
}

// manySplits is a plan of all sixteen cores, each but one of which has a tick of the unit of its own number, which has another on the core ahead of it; all are so many ticks later.
func manySplits(f, later int) api.Plan {
	p := planOf(f, 0xffff)
	for core := 1; core < 16; core++ {
		p.Places = append(p.Places, split(core, at(core-1, (2*core+later)%f), at(core, (2*core+1+later)%f)))
	}
	return p
}

// TestApart holds P22.1 and P22.3 for plans that share no unit, on the same cores, with the same shares and windows too.
func TestApart(t *testing.T) {
	a := planOf(8, 7, whole(1, 2, 0), split(5, at(1, 0, 1), at(2, 7)), whole(200, 1, 2))
	b := planOf(8, 7, whole(2, 2, 0), split(6, at(1, 0, 1), at(2, 7)), whole(199, 1, 2))
	whoIs(t, a, b, answers{came: []int{2, 6, 199}, gone: []int{1, 5, 200}, shift: 6})
	c := planOf(8, 7, whole(1001, 2, 0), split(1005, at(1, 0, 1), at(2, 6)), whole(1040, 1, 2))
	whoIs(t, a, c, answers{came: []int{1001, 1005, 1040}, gone: []int{1, 5, 200}, shift: 6})
	// A task and the group of its number are two units.
	whoIs(t, planOf(4, 1, whole(7, 2, 0)), planOf(4, 1, whole(1007, 2, 0)), answers{came: []int{1007}, gone: []int{7}})
	whoIs(t, planOf(4, 1, whole(7, 2, 0), whole(1007, 1, 0)), planOf(4, 1, whole(7, 1, 0), whole(1007, 1, 0)), answers{resized: []int{7}})
	whoIs(t, planOf(4, 1, whole(7, 2, 0), whole(1007, 1, 0)), planOf(4, 1, whole(7, 2, 0), whole(1007, 2, 0)), answers{resized: []int{1007}})
}

// TestWhole holds P22.1 for units that are whole in both plans: on the same core or on another, with the same Share or another.
func TestWhole(t *testing.T) {
	for _, unit := range []int{1, 7, 200, 1001, 1040} {
		for was := range 16 {
			for now := range 16 {
				a, b := planOf(9, 0xffff, whole(unit, 4, was)), planOf(9, 0xffff, whole(unit, 4, now))
				moved := []int{unit}
				if was == now {
					moved = nil
				}
				whoIs(t, a, b, answers{moved: moved})
				for _, share := range []int{1, 3, 5, 9} {
					whoIs(t, a, planOf(9, 0xffff, whole(unit, share, now)), answers{moved: moved, resized: []int{unit}})
				}
			}
		}
	}
	// Others on the core do not count.
	a := planOf(8, 3, whole(1, 2, 0), whole(2, 2, 0), whole(3, 2, 1))
	whoIs(t, a, planOf(8, 3, whole(1, 2, 0), whole(2, 2, 1), whole(3, 2, 1)), answers{moved: []int{2}})
	whoIs(t, a, planOf(8, 3, whole(1, 2, 1), whole(2, 2, 0), whole(3, 2, 0)), answers{moved: []int{1, 3}})
	whoIs(t, a, planOf(8, 3, whole(1, 2, 1), whole(3, 2, 0)), answers{moved: []int{1, 3}, gone: []int{2}})
	whoIs(t, a, planOf(8, 3, whole(1, 3, 0), whole(2, 1, 0), whole(3, 2, 1)), answers{resized: []int{1, 2}})
}

// TestHalf holds P22.1 and P22.3 for units that are whole in one plan and split in the other, with the whole one's core among those of its pieces and not, the Share the same and another.
func TestHalf(t *testing.T) {
	for _, unit := range []int{1, 200, 1001, 1040} {
		for _, x := range []place{
			split(unit, at(0, 0), at(1, 1)), split(unit, at(0, 1), at(15, 0)), split(unit, at(3, 0, 5), at(15, 1)), split(unit, at(0, 0), at(7, 1), at(15, 2, 3)),
		} {
			for core := range 16 {
				for _, share := range []int{x.Share, 1, 6} {
					a, b := planOf(6, 0xffff, whole(unit, share, core)), planOf(6, 0xffff, x)
					right := answers{moved: []int{unit}, shift: x.Share}
					if share != x.Share {
						right.resized = []int{unit}
					}
					whoIs(t, a, b, right)
					whoIs(t, b, a, right)
				}
			}
		}
	}
}

// TestSplit holds P22.1 and P22.3 for units that are split in both plans.
func TestSplit(t *testing.T) {
	x := split(5, at(1, 0, 1), at(2, 7))
	for _, k := range []struct {
		now   place
		right answers
	}{
		// The same pieces.
		{split(5, at(1, 0, 1), at(2, 7)), answers{}},
		// Other ticks on the same cores, with the same Share and others.
		{split(5, at(1, 0, 2), at(2, 7)), answers{moved: []int{5}, shift: 2}},
		{split(5, at(1, 0, 1), at(2, 6)), answers{moved: []int{5}, shift: 2}},
		{split(5, at(1, 2, 3), at(2, 6)), answers{moved: []int{5}, shift: 6}},
		{split(5, at(1, 7), at(2, 0, 1)), answers{moved: []int{5}, shift: 6}},
		{split(5, at(1, 1), at(2, 0, 7)), answers{moved: []int{5}, shift: 2}},
		{split(5, at(1, 0), at(2, 7)), answers{moved: []int{5}, resized: []int{5}, shift: 1}},
		{split(5, at(1, 0, 1), at(2, 6, 7)), answers{moved: []int{5}, resized: []int{5}, shift: 1}},
		{split(5, at(1, 0, 1, 2, 3, 4, 5, 6), at(2, 7)), answers{moved: []int{5}, resized: []int{5}, shift: 5}},
		// Other cores: one of them, both, and one for the other.
		{split(5, at(1, 0, 1), at(3, 7)), answers{moved: []int{5}, shift: 2}},
		{split(5, at(0, 0, 1), at(2, 7)), answers{moved: []int{5}, shift: 4}},
		{split(5, at(2, 0, 1), at(3, 7)), answers{moved: []int{5}, shift: 6}},
		{split(5, at(8, 0, 1), at(15, 7)), answers{moved: []int{5}, shift: 6}},
		{split(5, at(0, 0), at(15, 7)), answers{moved: []int{5}, resized: []int{5}, shift: 5}},
		// More cores.
		{split(5, at(1, 0, 1), at(2, 7), at(15, 6)), answers{moved: []int{5}, resized: []int{5}, shift: 1}},
		{split(5, at(0, 6), at(1, 0, 1), at(2, 7)), answers{moved: []int{5}, resized: []int{5}, shift: 1}},
		{split(5, at(0, 0), at(1, 1), at(2, 7)), answers{moved: []int{5}, shift: 2}},
		{split(5, at(1, 0), at(2, 7), at(3, 1)), answers{moved: []int{5}, shift: 2}},
	} {
		whoIs(t, planOf(8, 0xffff, x), planOf(8, 0xffff, k.now), k.right)
		// Fewer cores, the other way.
		whoIs(t, planOf(8, 0xffff, k.now), planOf(8, 0xffff, x), k.right)
	}
	// All sixteen cores, and others beside them that stay.
	var all, turned []piece
	for core := range 16 {
		all, turned = append(all, span(core, 4*core, 4*core+4)), append(turned, span(core, (4*core+32)%64, (4*core+32)%64+4))
	}
	other := split(1040, at(0, 5), at(15, 1))
	whoIs(t, planOf(64, 0xffff, split(1, all...), other), planOf(64, 0xffff, split(1, turned...), other), answers{moved: []int{1}, shift: 128})
	whoIs(t, planOf(64, 0xffff, split(1, all...), other), planOf(64, 0xffff, split(1, all[:8]...), other), answers{moved: []int{1}, resized: []int{1}, shift: 32})
	whoIs(t, planOf(64, 0xffff, split(1, all[8:]...), other), planOf(64, 0xffff, split(1, all[:8]...), other), answers{moved: []int{1}, shift: 64})
	whoIs(t, planOf(64, 0xffff, split(1, all...), other), planOf(64, 0xffff, other), answers{gone: []int{1}, shift: 64})
	whoIs(t, manySplits(16, 0), manySplits(16, 1), answers{moved: []int{1, 2, 3, 4, 5, 6, 7, 8, 9, 10, 11, 12, 13, 14, 15}, shift: 60})
	whoIs(t, manySplits(16, 0), manySplits(16, 16), answers{})
	// The last tick of the greatest frame.
	whoIs(t, planOf(64, 3, split(1, at(0, 0), at(1, 63))), planOf(64, 3, split(1, at(0, 0), at(1, 62))), answers{moved: []int{1}, shift: 2})
	whoIs(t, planOf(64, 3, split(1, at(0, 0), at(1, 63))), planOf(64, 3, split(1, at(0, 63), at(1, 0))), answers{moved: []int{1}, shift: 4})
}

// TestSide holds P22.1 for units that came, are gone, are moved and are resized side by side: each result rises.
func TestSide(t *testing.T) {
	a := planOf(12, 0x8007,
		whole(1, 2, 0), whole(2, 1, 0), whole(3, 2, 1), split(4, at(0, 0), at(1, 1)), whole(6, 1, 2), whole(9, 3, 15), split(10, at(1, 0), at(2, 2, 3)),
		whole(200, 1, 1), whole(1001, 2, 1), whole(1003, 2, 15), split(1004, at(2, 6), at(15, 7)), whole(1009, 1, 2), whole(1040, 1, 0))
	b := planOf(12, 0x8007,
		whole(1, 3, 0), whole(2, 1, 1), whole(4, 2, 0), whole(5, 1, 1), whole(6, 1, 2), split(7, at(0, 0), at(15, 1)), split(9, at(2, 0, 1), at(15, 2)), whole(10, 2, 2),
		whole(200, 1, 15), whole(1001, 1, 1), whole(1002, 1, 1), whole(1003, 1, 15), split(1004, at(2, 7), at(15, 6)), whole(1008, 3, 15), whole(1040, 1, 1))
	whoIs(t, a, b, answers{
		moved: []int{2, 4, 9, 10, 200, 1004, 1040}, came: []int{5, 7, 1002, 1008}, gone: []int{3, 1009}, resized: []int{1, 10, 1001, 1003},
		shift: 2 + 2 + 3 + 3 + 4,
	})
	// Each is another one's neighbour, the first and the last too.
	for first := range 4 {
		p, q, right := planOf(64, 0xffff), planOf(64, 0xffff), answers{}
		for i := range 40 {
			unit := 1 + 5*i
			if i >= 20 {
				unit = 1001 + 2*(i-20)
			}
			switch (first + i) % 4 {
			case 0:
				p.Places = append(p.Places, whole(unit, 2, i%16))
				q.Places, right.moved = append(q.Places, whole(unit, 2, (i+5)%16)), append(right.moved, unit)
			case 1:
				q.Places, right.came = append(q.Places, whole(unit, 2, i%16)), append(right.came, unit)
			case 2:
				p.Places, right.gone = append(p.Places, whole(unit, 2, i%16)), append(right.gone, unit)
			case 3:
				p.Places = append(p.Places, whole(unit, 2, i%16))
				q.Places, right.resized = append(q.Places, whole(unit, 3, i%16)), append(right.resized, unit)
			}
		}
		whoIs(t, p, q, right)
	}
}

// TestFrames holds the promises for plans whose frames and core sets differ.
func TestFrames(t *testing.T) {
	x := split(5, at(1, 0, 1), at(2, 3))
	a := planOf(4, 7, whole(1, 2, 0), x, whole(1001, 1, 1))
	for _, f := range []int{4, 5, 63, 64} {
		for _, cores := range []uint32{7, 0x8007, 0xff, 0xffff} {
			b := planOf(f, cores, whole(1, 2, 0), x, whole(1001, 1, 1))
			whoIs(t, a, b, answers{})
			whoIs(t, a, planOf(f, cores, whole(1, 2, 1), x, whole(1002, 1, 0)), answers{moved: []int{1}, came: []int{1002}, gone: []int{1001}})
			whoIs(t, a, planOf(f, cores, whole(1, f, 0), x), answers{resized: []int{1}, gone: []int{1001}})
			whoIs(t, a, planOf(f, cores, whole(1, 2, 0), split(5, at(1, 0, f-1), at(2, 2))), answers{moved: []int{5}, gone: []int{1001}, shift: 4})
		}
	}
	// They share no core, and no tick but the first two.
	whoIs(t, planOf(2, 3, split(1, at(0, 0), at(1, 1))), planOf(64, 0x8100, split(1, at(8, 0), at(15, 63))), answers{moved: []int{1}, shift: 4})
	whoIs(t, planOf(2, 1<<15, whole(1, 1, 15)), planOf(64, 1, whole(1, 1, 0)), answers{moved: []int{1}})
	whoIs(t, planOf(2, 1<<15, whole(1, 1, 15)), planOf(64, 0xffff, whole(1, 64, 15)), answers{resized: []int{1}})
	whoIs(t, planOf(2, 3, whole(1, 1, 1)), planOf(64, 1<<1, whole(1, 1, 1)), answers{})
}

// TestShift holds P22.3 for windows that pass on: to another core, to another unit, and to nobody.
func TestShift(t *testing.T) {
	a := planOf(8, 15, split(3, at(0, 0, 1), at(1, 2, 3, 4)), split(4, at(0, 2), at(1, 0)))
	for _, k := range []struct {
		b     api.Plan
		shift int
	}{
		// The same ticks on other cores.
		{planOf(8, 15, split(3, at(2, 0, 1), at(3, 2, 3, 4)), split(4, at(0, 2), at(1, 0))), 10},
		{planOf(8, 15, split(3, at(0, 0, 1), at(2, 2, 3, 4)), split(4, at(0, 2), at(1, 0))), 6},
		{planOf(8, 15, split(3, at(0, 0, 1), at(1, 2, 3, 4)), split(4, at(1, 0), at(2, 2))), 2},
		// Ticks go from one unit's window to another's on the same core.
		{planOf(8, 15, split(3, at(0, 2), at(1, 0)), split(4, at(0, 0, 1), at(1, 2, 3, 4))), 14},
		{planOf(8, 15, split(3, at(0, 0), at(1, 2, 3, 4)), split(4, at(0, 1, 2), at(1, 0))), 2},
		{planOf(8, 15, split(3, at(0, 0, 1), at(1, 4)), split(4, at(0, 2), at(1, 0, 3))), 3},
		// To a unit that was not there, from one that is gone.
		{planOf(8, 15, split(3, at(0, 0, 1), at(1, 2, 3, 4)), split(5, at(0, 2), at(1, 0))), 4},
		// Units become whole, are gone, and come.
		{planOf(8, 15, whole(3, 5, 0), split(4, at(0, 2), at(1, 0))), 5},
		{planOf(8, 15, whole(3, 5, 0), whole(4, 2, 1)), 7},
		{without(a, 3), 5}, {without(a, 4), 2}, {without(a, 3, 4), 7},
		{with(a, split(5, at(2, 0, 1, 2), at(3, 3, 4, 5))), 6},
		{with(a, whole(5, 3, 0), whole(6, 3, 1), whole(7, 8, 2)), 0},
		{with(without(a, 4), whole(4, 2, 0), split(1001, at(0, 7), at(3, 6))), 4},
		// A whole unit's ticks are nobody's windows, on whatever core it is.
		{with(a, whole(5, 3, 0)), 0}, {with(a, whole(5, 4, 1)), 0},
	} {
		if got := diff.Shift(a, k.b); got != k.shift {
			t.Errorf("Shift(%v, %v): %d; want %d", a, k.b, got, k.shift)
		}
		whoIs(t, a, k.b, answersOf(a, k.b))
	}
	whole1, whole2 := planOf(64, 0xffff, whole(1, 64, 0), whole(2, 64, 15)), planOf(64, 0xffff, whole(1, 64, 15), whole(2, 32, 0))
	whoIs(t, whole1, whole2, answers{moved: []int{1, 2}, resized: []int{2}})
	// As much as there can be: fifteen units have the whole frame on all sixteen cores.
	p, q := planOf(64, 0xffff), planOf(64, 0xffff)
	for unit := 1; unit < 16; unit++ {
		var own, other []piece
		for core := range 16 {
			own = append(own, span(core, (core+unit)%16*4, (core+unit)%16*4+4))
			other = append(other, span(core, (core+15-unit)%16*4, (core+15-unit)%16*4+4))
		}
		p.Places, q.Places = append(p.Places, split(unit, own...)), append(q.Places, split(1000+unit, other...))
	}
	if got := diff.Shift(p, q); got != 2*15*64 {
		t.Error(got)
	}
	whoIs(t, p, q, answersOf(p, q))
}

// someUnit is the number of a task or, more seldom, of a group.
func someUnit(rng *rand.Rand) int {
	if rng.Intn(3) == 0 {
		return 1001 + rng.Intn(40)
	}
	return 1 + rng.Intn(200)
}

// tryPlace is a plan with a place, in place of a previous one of its unit, if that may be; else it is as it was.
func tryPlace(p api.Plan, x place) api.Plan {
	if q := with(without(p, x.Unit), x); plan.Check(q) == api.OK {
		return q
	}
	return p
}

// somePlace is one of a unit on the cores of a plan, whole or of some ticks; it need not be one that may be.
func somePlace(rng *rand.Rand, p api.Plan, unit int) place {
	cores := plan.Cores(p)
	if rng.Intn(3) == 0 {
		return whole(unit, 1+rng.Intn(p.Frame)/(1+rng.Intn(4)), cores[rng.Intn(len(cores))])
	}
	rng.Shuffle(len(cores), func(i, j int) { cores[i], cores[j] = cores[j], cores[i] })
	cores = cores[:min(len(cores), 2+rng.Intn(3))]
	var own [16]uint64
	for tick := range p.Frame {
		if core := cores[rng.Intn(len(cores))]; rng.Intn(3) > 0 && plan.Windows(p, core)>>tick%2 == 0 {
			own[core] |= 1 << tick
		}
	}
	var pieces []piece
	for core, ticks := range own {
		if ticks != 0 {
			pieces = append(pieces, piece{Core: core, Ticks: ticks})
		}
	}
	return split(unit, pieces...)
}

// somePlan is a right one of some frame, some cores and some places.
func somePlan(rng *rand.Rand) api.Plan {
	p := planOf(2+rng.Intn(63), 0)
	for _, core := range rng.Perm(16)[:1+rng.Intn(16)] {
		p.Cores |= 1 << core
	}
	for range rng.Intn(20) {
		p = tryPlace(p, somePlace(rng, p, someUnit(rng)))
	}
	return p
}

// changed is a right plan that has much of another one: some of its units are gone, some stay, and some are elsewhere or have other shares; others came.
func changed(rng *rand.Rand, p api.Plan) api.Plan {
	q := deep(p)
	if rng.Intn(4) == 0 {
		q.Frame = min(q.Frame+rng.Intn(3), 64)
	}
	if rng.Intn(4) == 0 {
		q.Cores |= 1 << rng.Intn(16)
	}
	for _, x := range p.Places {
		switch rng.Intn(6) {
		case 0:
			q = without(q, x.Unit)
		case 1:
			q = tryPlace(q, somePlace(rng, q, x.Unit))
		case 2:
			q = tryPlace(q, turned(rng, x, q.Frame))
		case 3:
			if len(x.Pieces) == 0 {
				q = tryPlace(q, whole(x.Unit, x.Share+rng.Intn(3)-1, x.Core))
			}
		}
	}
	for range rng.Intn(4) {
		q = tryPlace(q, somePlace(rng, q, someUnit(rng)))
	}
	return q
}

// turned is a place on the same cores whose ticks are others; a whole one is elsewhere.
func turned(rng *rand.Rand, x place, f int) place {
	x = deepPlace(x)
	later := 1 + rng.Intn(f-1)
	for i, y := range x.Pieces {
		x.Pieces[i].Ticks = (y.Ticks<<later | y.Ticks>>(f-later)) & (math.MaxUint64 >> (64 - f))
	}
	if len(x.Pieces) == 0 {
		x.Core ^= 1 << rng.Intn(4)
	}
	return x
}

// TestAny holds all promises for any right plans, of which one has much of the other.
func TestAny(t *testing.T) {
	rng := rand.New(rand.NewSource(221))
	var all answers
	kinds := map[[2]int]int{}
	for range 6000 {
		a := somePlan(rng)
		b := changed(rng, a)
		checkWho(t, a, b)
		checkChanges(t, a, b)
		checkChanges(t, b, a)
		checkAnyOrder(t, rng, a, b)
		l := told(a, b)
		all.moved, all.came = append(all.moved, l.moved...), append(all.came, l.came...)
		all.gone, all.resized = append(all.gone, l.gone...), append(all.resized, l.resized...)
		all.shift += l.shift
		for _, unit := range l.moved {
			was, _ := find(a, unit)
			now, _ := find(b, unit)
			kinds[[2]int{min(len(was.Pieces), 3), min(len(now.Pieces), 3)}]++
		}
	}
	if len(all.moved) < 5000 || len(all.came) < 3000 || len(all.gone) < 3000 || len(all.resized) < 3000 || all.shift < 50000 {
		t.Error(len(all.moved), len(all.came), len(all.gone), len(all.resized), all.shift)
	}
	for _, was := range []int{0, 2, 3} {
		for _, now := range []int{0, 2, 3} {
			if kinds[[2]int{was, now}] < 100 {
				t.Error(kinds)
			}
		}
	}
}

// smallPlans are all right plans of a frame and of the cores from 0 to ahead of n in which some units have places.
func smallPlans(f, n int, units ...int) []api.Plan {
	l := []api.Plan{planOf(f, 1<<n-1)}
	for _, unit := range units {
		for _, p := range slices.Clone(l) {
			for _, x := range smallPlaces(f, n, unit) {
				if q := with(p, x); plan.Check(q) == api.OK {
					l = append(l, q)
				}
			}
		}
	}
	return l
}

// smallPlaces are all places of a unit: whole ones, and each assignment of the ticks to cores, or to none.
func smallPlaces(f, n, unit int) []place {
	var l []place
	for share := 1; share <= f; share++ {
		for core := range n {
			l = append(l, whole(unit, share, core))
		}
	}
	codes := 1
	for range f {
		codes *= n + 1
	}
	for code := range codes {
		own := make([]uint64, n+1)
		for tick := range f {
			own[code%(n+1)] |= 1 << tick
			code /= n + 1
		}
		var pieces []piece
		for core, ticks := range own[:n] {
			if ticks != 0 {
				pieces = append(pieces, piece{Core: core, Ticks: ticks})
			}
		}
		if len(pieces) > 1 {
			l = append(l, split(unit, pieces...))
		}
	}
	return l
}

// TestSmall holds all promises for each pair of small plans.
func TestSmall(t *testing.T) {
	for _, l := range [][]api.Plan{smallPlans(2, 2, 1, 1001), smallPlans(3, 2, 7, 8)[:120], smallPlans(2, 3, 200), smallPlans(2, 2, 1, 2, 3)[:90]} {
		for _, a := range l {
			for _, b := range l {
				checkWho(t, a, b)
				checkChanges(t, a, b)
			}
		}
	}
}
