package pack_test

import (
	"cmp"
	"math"
	"math/bits"
	"reflect"
	"slices"
	"testing"

	"dogwatch/api"
	"dogwatch/ffd"
	"dogwatch/order"
	"dogwatch/pack"
	"dogwatch/plan"
)

type (
	want  = api.Want
	piece = api.Piece
	place = api.Place
)

// farNumbers are no ticks of a frame, units or shares; some of them are one in their lowest bits.
var farNumbers = []int{
	math.MinInt, math.MinInt + 1, math.MinInt + 4, -1 << 32, -1<<32 + 1, -1000, -65, -64, -17, -16, -2, -1,
	1 << 16, 1 << 32, 1<<32 + 1, 1<<32 + 4, 1<<40 + 2, math.MaxInt - 1, math.MaxInt,
}

// wrongFrames are numbers of ticks that no frame has.
var wrongFrames = append([]int{0, 1, 65, 66, 128}, farNumbers...)

// wrongCores are sets of cores that no plan has: the empty one, and such with bits beyond those of the cores.
func wrongCores() []uint32 {
	l := []uint32{0, math.MaxUint32, 0xffff0000}
	for bit := 16; bit < 32; bit++ {
		l = append(l, 1<<bit, 1<<bit|1, 1<<bit|0xffff)
	}
	return l
}

func wantOf(unit, share int) want { return want{Unit: unit, Share: share} }

func whole(unit, share, core int) place { return place{Unit: unit, Share: share, Core: core} }

func split(unit, share int, pieces ...piece) place {
	return place{Unit: unit, Share: share, Pieces: pieces}
}

// at is a piece of these ticks.
func at(core int, ticks ...int) piece {
	y := piece{Core: core}
	for _, tick := range ticks {
		y.Ticks |= 1 << tick
	}
	return y
}

func planOf(f int, cores uint32, places ...place) api.Plan {
	return api.Plan{Frame: f, Cores: cores, Places: places}
}

// piecesOf are the pieces of a unit that has these ticks on the cores from 0 on.
func piecesOf(own [16]uint64) []piece {
	var pieces []piece
	for core, ticks := range own {
		if ticks != 0 {
			pieces = append(pieces, piece{Core: core, Ticks: ticks})
		}
	}
	return pieces
}

// shares are wants of these shares, of the units from 1 on, and of the groups' where the tasks do not suffice.
func shares(l ...int) []want {
	var wants []want
	for i, share := range l {
		wants = append(wants, wantOf(nth(i), share))
	}
	return wants
}

// nth is the unit that has so many below it.
func nth(i int) int {
	if i < 200 {
		return 1 + i
	}
	return 1001 + i - 200
}

// deep is a plan that shares no memory with another one; what is empty is nil.
func deep(p api.Plan) api.Plan {
	var places []place
	for _, x := range p.Places {
		x.Pieces = append([]piece(nil), x.Pieces...)
		places = append(places, x)
	}
	p.Places = places
	return p
}

func samePlan(a, b api.Plan) bool { return reflect.DeepEqual(deep(a), deep(b)) }

func compareUnits(a, b place) int { return cmp.Compare(a.Unit, b.Unit) }

func sumOf(l []want) int {
	sum := 0
	for _, w := range l {
		sum += w.Share
	}
	return sum
}

// countOf is how many cores a set has.
func countOf(cores uint32) int {
	n := 0
	for core := range 32 {
		n += int(cores >> core & 1)
	}
	return n
}

// roomOf is a core's room by the document's words, 0 for one that the plan lacks.
func roomOf(p api.Plan, core int) int {
	if p.Cores>>core%2 == 0 {
		return 0
	}
	room := p.Frame
	for _, x := range p.Places {
		if len(x.Pieces) == 0 && x.Core == core {
			room -= x.Share
		}
		for _, y := range x.Pieces {
			if y.Core == core {
				room -= bits.OnesCount64(y.Ticks)
			}
		}
	}
	return room
}

// fitOf is the model of first fit decreasing in an empty plan: of those that remain, the next one is sought each time.
func fitOf(f int, cores uint32, l []want) (api.Plan, []want) {
	p, rest := planOf(f, cores), slices.Clone(l)
	var over []want
	for len(rest) > 0 {
		next := 0
		for i, w := range rest {
			if w.Share > rest[next].Share || w.Share == rest[next].Share && w.Unit < rest[next].Unit {
				next = i
			}
		}
		w := rest[next]
		rest = slices.Delete(rest, next, next+1)
		core := 0
		for core < 16 && roomOf(p, core) < w.Share {
			core++
		}
		if core < 16 {
			p.Places = append(p.Places, whole(w.Unit, w.Share, core))
		} else {
			over = append(over, w)
		}
	}
	return p, over
}

// fullOf is the model of Full for wants that may be placed: whoever is left over gets ticks one by one, as no core has room for all of them.
func fullOf(f int, cores uint32, l []want) api.Plan {
	p, over := fitOf(f, cores, l)
	core, tick := 0, 0
	for _, w := range over {
		var own [16]uint64
		for range w.Share {
			for bits.OnesCount64(own[core]) == roomOf(p, core) {
				core++
			}
			own[core] |= 1 << tick
			tick = (tick + 1) % f
		}
		p.Places = append(p.Places, split(w.Unit, w.Share, piecesOf(own)...))
	}
	slices.SortFunc(p.Places, compareUnits)
	return p
}

// errorOf is the error of Full by the document's words.
func errorOf(f int, cores uint32, l []want) api.Errno {
	if f < 2 || f > 64 || cores == 0 || cores > 0xffff {
		return api.ErrPlan
	}
	if e := order.Check(f, l...); e != api.OK {
		return e
	}
	if sumOf(l) > f*countOf(cores) {
		return api.ErrFull
	}
	return api.OK
}

// checkFull holds P20.1, and P20.2 of Fits, for any frame, cores and wants, and the properties of what it comes to.
func checkFull(t *testing.T, f int, cores uint32, l []want) api.Plan {
	t.Helper()
	before := slices.Clone(l)
	got, e := pack.Full(f, cores, l...)
	fits := pack.Fits(f, cores, l...)
	if !slices.Equal(l, before) {
		t.Errorf("Full or Fits of %d, %x, %v left %v", f, cores, before, l)
	}
	wrong := errorOf(f, cores, l)
	if fits != (wrong == api.OK) || fits != (e == api.OK) {
		t.Errorf("Fits(%d, %x, %v): %v; Full: %d", f, cores, l, fits, e)
	}
	if wrong != api.OK {
		if e != wrong || !samePlan(got, api.Plan{}) {
			t.Errorf("Full(%d, %x, %v): %v, %d; want nothing, %d", f, cores, l, got, e, wrong)
		}
		return got
	}
	if right := fullOf(f, cores, l); e != api.OK || !samePlan(got, right) {
		t.Errorf("Full(%d, %x, %v): %v, %d; want %v", f, cores, l, got, e, right)
	}
	checkAll(t, got, f, cores, l)
	checkFew(t, got, f, cores, l)
	checkTurned(t, got, f, cores, l)
	return got
}

// checkAll holds P20.3: the plan is valid, and has a place of its Share for each want and no other one, so that no tick remains unused in vain.
func checkAll(t *testing.T, got api.Plan, f int, cores uint32, l []want) {
	t.Helper()
	free := 0
	for core := range 16 {
		free += roomOf(got, core)
	}
	if plan.Check(got) != api.OK || got.Frame != f || got.Cores != cores || free != f*countOf(cores)-sumOf(l) {
		t.Errorf("%d, %x, %v became %v", f, cores, l, got)
	}
	var placed []want
	for _, x := range got.Places {
		placed = append(placed, wantOf(x.Unit, x.Share))
	}
	byUnit := func(a, b want) int { return cmp.Compare(a.Unit, b.Unit) }
	if !slices.Equal(placed, slices.SortedFunc(slices.Values(l), byUnit)) {
		t.Errorf("%v became %v", l, got)
	}
}

// checkFew holds P20.4: fewer units are split than there are cores, and none if Sure knows that.
func checkFew(t *testing.T, got api.Plan, f int, cores uint32, l []want) {
	t.Helper()
	splits := 0
	for _, x := range got.Places {
		splits += min(len(x.Pieces), 1)
	}
	if splits >= countOf(cores) || splits > 0 && ffd.Sure(f, countOf(cores), l...) {
		t.Errorf("%d of %v are split: %v", splits, l, got)
	}
}

// checkTurned holds P20.5 for the wants the other way round, and turned by one and by half of them.
func checkTurned(t *testing.T, got api.Plan, f int, cores uint32, l []want) {
	t.Helper()
	if len(l) < 2 {
		return
	}
	back := slices.Clone(l)
	slices.Reverse(back)
	half := len(l) / 2
	for _, other := range [][]want{back, slices.Concat(l[1:], l[:1]), slices.Concat(l[half:], l[:half])} {
		if p, e := pack.Full(f, cores, other...); e != api.OK || !samePlan(p, got) {
			t.Errorf("Full(%d, %x, %v): %v, %d; but %v: %v", f, cores, other, p, e, l, got)
		}
	}
}

// fullIs holds Full, and the model too, against the places that a test names.
func fullIs(t *testing.T, f int, cores uint32, l []want, placed ...place) api.Plan {
	t.Helper()
	if e := errorOf(f, cores, l); e != api.OK {
		t.Fatalf("%d, %x, %v: %d", f, cores, l, e)
	}
	got := checkFull(t, f, cores, l)
	right := planOf(f, cores, slices.SortedFunc(slices.Values(placed), compareUnits)...)
	if !samePlan(got, right) {
		t.Errorf("Full(%d, %x, %v): %v; want %v", f, cores, l, got, right)
	}
	return got
}

// fails holds Full and Fits, and the model too, against an error that a test names.
func fails(t *testing.T, e api.Errno, f int, cores uint32, l ...want) {
	t.Helper()
	if wrong := errorOf(f, cores, l); wrong != e {
		t.Errorf("the model of %d, %x, %v: %d; want %d", f, cores, l, wrong, e)
	}
	if got, wrong := pack.Full(f, cores, l...); wrong != e || !samePlan(got, api.Plan{}) {
		t.Errorf("Full(%d, %x, %v): %v, %d; want nothing, %d", f, cores, l, got, wrong, e)
	}
	if pack.Fits(f, cores, l...) {
		t.Errorf("Fits(%d, %x, %v)", f, cores, l)
	}
	checkFull(t, f, cores, l)
}

// TestExamples holds the examples of the chapter, and the document's third one.
func TestExamples(t *testing.T) {
	five := shares(6, 6, 6, 6, 6)
	p := fullIs(t, 10, 7, five, whole(1, 6, 0), whole(2, 6, 1), whole(3, 6, 2),
		split(4, 6, at(0, 0, 1, 2, 3), at(1, 4, 5)), split(5, 6, at(1, 6, 7), at(2, 8, 9, 0, 1)))
	fails(t, api.ErrFull, 10, 3, five...)
	leastIs(t, 3, 10, five...)
	q := againIs(t, plan.Drop(p, 1), whole(2, 6, 0), whole(3, 6, 1), whole(4, 6, 2), split(5, 6, at(0, 0, 1, 2, 3), at(1, 4, 5)))
	if plan.Splits(q) != 1 {
		t.Error(q)
	}
	fullIs(t, 4, 3, shares(3, 3, 2), whole(1, 3, 0), whole(2, 3, 1), split(3, 2, at(0, 0), at(1, 1)))
}
