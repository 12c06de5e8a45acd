package diff_test

import (
	"math"
	"math/rand"
	"slices"
	"testing"

	"dogwatch/api"
	"dogwatch/diff"
)

type change = diff.Change

// changesOf is the model of Changes.
func changesOf(a, b api.Plan) []change {
	var l []change
	for _, unit := range unitsOf(a, b) {
		was, _ := find(a, unit)
		now, _ := find(b, unit)
		if !samePlace(was, now) {
			l = append(l, change{Unit: unit, Was: deepPlace(was), Now: deepPlace(now)})
		}
	}
	return l
}

func sameChanges(a, b []change) bool {
	return slices.EqualFunc(a, b, func(x, y change) bool { return x.Unit == y.Unit && samePlace(x.Was, y.Was) && samePlace(x.Now, y.Now) })
}

func deepChanges(l []change) []change {
	l = slices.Clone(l)
	for i, x := range l {
		l[i].Was, l[i].Now = deepPlace(x.Was), deepPlace(x.Now)
	}
	return l
}

// applied is the model of Apply.
func applied(p api.Plan, l ...change) api.Plan {
	p = deep(p)
	for _, x := range l {
		if x.Now.Unit == 0 {
			p = without(p, x.Unit)
		} else {
			p = with(without(p, x.Now.Unit), deepPlace(x.Now))
		}
	}
	return p
}

// checkApply holds P22.2 of Apply for a plan whose Places are those of a right one, and any changes.
func checkApply(t *testing.T, p api.Plan, l ...change) api.Plan {
	t.Helper()
	before, args := deep(p), deepChanges(l)
	got := diff.Apply(p, l...)
	if right := applied(p, l...); !samePlan(got, right) {
		t.Errorf("Apply(%v, %v): %v; want %v", p, l, got, right)
	}
	if !samePlan(p, before) || !sameChanges(l, args) {
		t.Errorf("Apply(%v, %v) left %v, %v", before, args, p, l)
	}
	return got
}

// checkChanges holds P22.2 and the round trip of P22.4 for plans whose Places are those of right ones.
func checkChanges(t *testing.T, a, b api.Plan) {
	t.Helper()
	wasA, wasB := deep(a), deep(b)
	there, back := diff.Changes(a, b), diff.Changes(b, a)
	if right := changesOf(a, b); !sameChanges(there, right) {
		t.Errorf("Changes(%v, %v): %v; want %v", a, b, there, right)
	}
	if !samePlan(a, wasA) || !samePlan(b, wasB) {
		t.Errorf("Changes(%v, %v) left %v, %v", wasA, wasB, a, b)
	}
	if l := diff.Changes(a, a); len(l) > 0 {
		t.Errorf("Changes(%v, itself): %v", a, l)
	}
	onB := checkApply(t, a, there...)
	if right := (api.Plan{Frame: a.Frame, Cores: a.Cores, Places: b.Places}); !samePlan(onB, right) {
		t.Errorf("%v with the changes to %v: %v", a, b, onB)
	}
	if onA := checkApply(t, onB, back...); !samePlan(onA, a) {
		t.Errorf("%v to %v and back: %v", a, b, onA)
	}
}

// checkAnyOrder holds that the changes between two plans come to the same in any order, as each is of a unit of its own.
func checkAnyOrder(t *testing.T, rng *rand.Rand, a, b api.Plan) {
	t.Helper()
	l := diff.Changes(a, b)
	rng.Shuffle(len(l), func(i, j int) { l[i], l[j] = l[j], l[i] })
	if got := checkApply(t, a, l...); !samePlan(planOf(0, 0, got.Places...), planOf(0, 0, b.Places...)) {
		t.Errorf("%v with %v: %v", a, l, got)
	}
}

// changesAre holds Changes, and the model too, against those that a test names.
func changesAre(t *testing.T, a, b api.Plan, right ...change) {
	t.Helper()
	checkChanges(t, a, b)
	if got := diff.Changes(a, b); !sameChanges(got, right) {
		t.Errorf("Changes(%v, %v): %v; want %v", a, b, got, right)
	}
}

// applyIs holds Apply, and the model too, against the places that a test names.
func applyIs(t *testing.T, p api.Plan, l []change, places ...place) {
	t.Helper()
	if got := checkApply(t, p, l...); !samePlan(got, planOf(p.Frame, p.Cores, places...)) {
		t.Errorf("Apply(%v, %v): %v; want the places %v", p, l, got, places)
	}
}

// TestChanges holds P22.2 for each way in which a place may differ, and for units that one plan alone has.
func TestChanges(t *testing.T) {
	x := split(5, at(1, 0, 1), at(2, 7))
	p := planOf(8, 7, whole(1, 2, 0), x, whole(200, 1, 2), whole(1001, 2, 1))
	changesAre(t, p, p)
	changesAre(t, p, deep(p))
	for _, now := range []place{
		whole(5, 3, 1), whole(5, 3, 0), whole(5, 4, 0), split(5, at(1, 0, 2), at(2, 7)), split(5, at(1, 0, 1), at(2, 6)), split(5, at(0, 0, 1), at(2, 7)),
		split(5, at(1, 0, 1), at(2, 6, 7)), split(5, at(1, 0), at(2, 7)), split(5, at(0, 6), at(1, 0, 1), at(2, 7)), split(5, at(0, 0), at(1, 1), at(2, 7)),
	} {
		q := with(without(p, 5), now)
		changesAre(t, p, q, change{Unit: 5, Was: x, Now: now})
		changesAre(t, q, p, change{Unit: 5, Was: now, Now: x})
	}
	for _, now := range []place{whole(1001, 3, 1), whole(1001, 1, 1), whole(1001, 2, 0), whole(1001, 2, 2), whole(1001, 3, 2)} {
		changesAre(t, p, with(without(p, 1001), now), change{Unit: 1001, Was: whole(1001, 2, 1), Now: now})
	}
	changesAre(t, p, without(p, 1), change{Unit: 1, Was: whole(1, 2, 0)})
	changesAre(t, p, without(p, 5), change{Unit: 5, Was: x})
	changesAre(t, without(p, 1), p, change{Unit: 1, Now: whole(1, 2, 0)})
	changesAre(t, without(p, 5), p, change{Unit: 5, Now: x})
	changesAre(t, p, planOf(8, 7), change{Unit: 1, Was: whole(1, 2, 0)}, change{Unit: 5, Was: x}, change{Unit: 200, Was: whole(200, 1, 2)}, change{Unit: 1001, Was: whole(1001, 2, 1)})
	changesAre(t, planOf(2, 1), p, change{Unit: 1, Now: whole(1, 2, 0)}, change{Unit: 5, Now: x}, change{Unit: 200, Now: whole(200, 1, 2)}, change{Unit: 1001, Now: whole(1001, 2, 1)})
	// All kinds side by side.
	q := planOf(8, 7, whole(2, 1, 1), whole(5, 3, 0), whole(200, 1, 2), whole(1000+2, 1, 2), whole(1001+2, 1, 2))
	changesAre(t, p, q,
		change{Unit: 1, Was: whole(1, 2, 0)}, change{Unit: 2, Now: whole(2, 1, 1)}, change{Unit: 5, Was: x, Now: whole(5, 3, 0)},
		change{Unit: 1001, Was: whole(1001, 2, 1)}, change{Unit: 1002, Now: whole(1002, 1, 2)}, change{Unit: 1003, Now: whole(1003, 1, 2)},
	)
}

// TestApply holds P22.2 for no change, for places put where there was one and where there was none, and for units dropped, there or not.
func TestApply(t *testing.T) {
	x := split(5, at(1, 0, 1), at(2, 7))
	one, last := whole(1, 2, 0), whole(1001, 2, 1)
	p := planOf(8, 7, one, x, last)
	applyIs(t, p, nil, one, x, last)
	applyIs(t, p, []change{}, one, x, last)
	applyIs(t, planOf(8, 7), nil)
	applyIs(t, planOf(8, 7), []change{{Unit: 5, Now: x}}, x)
	for _, now := range []place{whole(5, 3, 2), split(5, at(0, 0, 1), at(1, 7)), split(5, at(0, 5), at(1, 0, 1), at(2, 7)), x} {
		applyIs(t, p, []change{{Unit: 5, Was: x, Now: now}}, one, now, last)
	}
	applyIs(t, p, []change{{Unit: 1, Now: whole(1, 1, 1)}}, whole(1, 1, 1), x, last)
	applyIs(t, p, []change{{Unit: 1001, Now: whole(1001, 1, 0)}}, one, x, whole(1001, 1, 0))
	applyIs(t, p, []change{{Unit: 3, Now: whole(3, 1, 1)}}, one, whole(3, 1, 1), x, last)
	applyIs(t, p, []change{{Unit: 200, Now: whole(200, 1, 1)}}, one, x, whole(200, 1, 1), last)
	applyIs(t, p, []change{{Unit: 1040, Now: whole(1040, 1, 1)}}, one, x, last, whole(1040, 1, 1))
	applyIs(t, without(p, 1), []change{{Unit: 1, Now: one}}, one, x, last)
	applyIs(t, p, []change{{Unit: 1, Was: one}}, x, last)
	applyIs(t, p, []change{{Unit: 5, Was: x}}, one, last)
	applyIs(t, p, []change{{Unit: 1001}}, one, x)
	applyIs(t, planOf(8, 1, one), []change{{Unit: 1, Was: one}})
	for _, unit := range append([]int{0, 2, 200, 1005, 1040}, farNumbers...) {
		applyIs(t, p, []change{{Unit: unit}}, one, x, last)
		applyIs(t, p, []change{{Unit: unit, Was: whole(unit, 1, 1)}, {Unit: 5}}, one, last)
		applyIs(t, planOf(8, 7), []change{{Unit: unit}})
	}
}

// TestApplyMany holds P22.2 for changes of the same unit, which come one after the other, and for such as are in another order than their units.
func TestApplyMany(t *testing.T) {
	x := split(5, at(1, 0, 1), at(2, 7))
	one, last := whole(1, 2, 0), whole(1001, 2, 1)
	p := planOf(8, 7, one, x, last)
	applyIs(t, p, []change{{Unit: 5}, {Unit: 5, Now: whole(5, 1, 0)}}, one, whole(5, 1, 0), last)
	applyIs(t, p, []change{{Unit: 5, Now: whole(5, 1, 0)}, {Unit: 5}}, one, last)
	applyIs(t, p, []change{{Unit: 5, Now: whole(5, 1, 0)}, {Unit: 5, Now: whole(5, 2, 1)}}, one, whole(5, 2, 1), last)
	applyIs(t, p, []change{{Unit: 5, Now: whole(5, 1, 0)}, {Unit: 5}, {Unit: 5, Now: x}, {Unit: 5, Now: x}}, one, x, last)
	applyIs(t, p, []change{{Unit: 7, Now: whole(7, 1, 0)}, {Unit: 1}, {Unit: 7}, {Unit: 7}, {Unit: 1, Now: whole(1, 1, 1)}}, whole(1, 1, 1), x, last)
	applyIs(t, p, []change{{Unit: 1001}, {Unit: 1002, Now: whole(1002, 1, 1)}, {Unit: 5}, {Unit: 4, Now: whole(4, 1, 0)}, {Unit: 3, Now: whole(3, 1, 0)}, {Unit: 1}},
		whole(3, 1, 0), whole(4, 1, 0), whole(1002, 1, 1))
	applyIs(t, p, []change{{Unit: 1040, Now: whole(1040, 1, 1)}, {Unit: 200, Now: whole(200, 1, 1)}, {Unit: 1003, Now: whole(1003, 1, 1)}, {Unit: 2, Now: whole(2, 1, 1)}},
		one, whole(2, 1, 1), x, whole(200, 1, 1), last, whole(1003, 1, 1), whole(1040, 1, 1))
	// In between there is no room: two units change cores, and one comes where another is about to go.
	full := planOf(4, 3, whole(1, 4, 0), whole(2, 4, 1))
	applyIs(t, full, []change{{Unit: 1, Now: whole(1, 4, 1)}, {Unit: 2, Now: whole(2, 4, 0)}}, whole(1, 4, 1), whole(2, 4, 0))
	applyIs(t, full, []change{{Unit: 3, Now: whole(3, 4, 0)}, {Unit: 1}}, whole(2, 4, 1), whole(3, 4, 0))
}

// TestApplyNow holds P22.2 to its words: the Now is put whatever Unit the change has, and one without a Unit drops whatever else is in it; the Was counts for nothing.
func TestApplyNow(t *testing.T) {
	x := split(5, at(1, 0, 1), at(2, 7))
	one, last := whole(1, 2, 0), whole(1001, 2, 1)
	p := planOf(8, 7, one, x, last)
	applyIs(t, p, []change{{Unit: 5, Now: whole(1, 3, 1)}}, whole(1, 3, 1), x, last)
	applyIs(t, p, []change{{Unit: 5, Now: whole(2, 3, 1)}}, one, whole(2, 3, 1), x, last)
	applyIs(t, p, []change{{Now: whole(5, 3, 1)}}, one, whole(5, 3, 1), last)
	applyIs(t, p, []change{{Unit: 5, Was: one, Now: place{Share: 3, Core: 1, Pieces: x.Pieces}}}, one, last)
	applyIs(t, p, []change{{Unit: 9, Was: one}}, one, x, last)
	applyIs(t, p, []change{{Unit: 5, Was: one, Now: whole(5, 3, 1)}}, one, whole(5, 3, 1), last)
	applyIs(t, p, []change{{Unit: 7, Was: x, Now: whole(7, 3, 1)}}, one, x, whole(7, 3, 1), last)
	applyIs(t, p, []change{{}}, one, x, last)
}

// TestPlaces holds P22.2 and the round trip for plans whose Places are right, while Frame and Cores are not: they stay as they are, and count for nothing.
func TestPlaces(t *testing.T) {
	x := split(5, at(1, 0, 1), at(2, 7))
	a := planOf(8, 7, whole(1, 2, 0), x, whole(1001, 2, 1))
	b := planOf(8, 0xffff, whole(1, 3, 15), whole(5, 2, 0), split(1002, at(0, 0), at(15, 1)))
	l := diff.Changes(a, b)
	var frames []api.Plan
	for _, f := range append([]int{0, 1, 2, 4, 8, 64, 65, 128}, farNumbers...) {
		for _, cores := range []uint32{0, 1, 7, 1 << 15, 1 << 16, 1<<16 | 3, 1 << 31, math.MaxUint32} {
			frames = append(frames, planOf(f, cores))
		}
	}
	for i, k := range frames {
		other := frames[(7*i+3)%len(frames)]
		p, q := planOf(k.Frame, k.Cores, a.Places...), planOf(other.Frame, other.Cores, b.Places...)
		changesAre(t, p, q, l...)
		changesAre(t, p, planOf(other.Frame, other.Cores, a.Places...))
		checkChanges(t, q, p)
		checkChanges(t, p, k)
		checkChanges(t, k, p)
		applyIs(t, p, l, b.Places...)
		applyIs(t, p, nil, a.Places...)
		applyIs(t, k, l, b.Places...)
		applyIs(t, p, []change{{Unit: 5}, {Unit: 9}}, a.Places[0], a.Places[2])
	}
}

// TestApplyAny holds P22.2 for any changes, many of which are of the same units.
func TestApplyAny(t *testing.T) {
	rng := rand.New(rand.NewSource(222))
	for range 3000 {
		p := somePlan(rng)
		units := []int{1 + rng.Intn(200), 1001 + rng.Intn(40)}
		for _, x := range p.Places {
			units = append(units, x.Unit)
		}
		var l []change
		for range rng.Intn(12) {
			x := change{Unit: units[rng.Intn(len(units))]}
			if rng.Intn(2) == 0 {
				x.Now = somePlace(rng, p, x.Unit)
			}
			if rng.Intn(2) == 0 {
				x.Was = somePlace(rng, p, x.Unit)
			}
			l = append(l, x)
		}
		checkApply(t, p, l...)
	}
}

// roomyPlace is a place whose pieces have spare capacity, in which something stands.
func roomyPlace(x place) place {
	n := len(x.Pieces)
	x.Pieces = append(deepPlace(x).Pieces, at(79, 1), at(80, 2))[:n]
	return x
}

func roomy(p api.Plan) api.Plan {
	p.Places = roomyPlaces(p.Places)
	return p
}

func roomyPlaces(l []place) []place {
	n := len(l)
	l = append(slices.Clone(l), whole(77, 77, 77), whole(78, 78, 78))[:n]
	for i, x := range l {
		l[i] = roomyPlace(x)
	}
	return l
}

func roomyChanges(l []change) []change {
	n := len(l)
	l = append(slices.Clone(l), change{Unit: 76}, change{Unit: 75})[:n]
	for i, x := range l {
		l[i].Was, l[i].Now = roomyPlace(x.Was), roomyPlace(x.Now)
	}
	return l
}

// stretchedPlace is a place whose spare capacity is part of it.
func stretchedPlace(x place) place {
	x.Pieces = slices.Clone(x.Pieces[:cap(x.Pieces)])
	return x
}

func stretched(p api.Plan) api.Plan {
	p.Places = slices.Clone(p.Places[:cap(p.Places)])
	for i, x := range p.Places {
		p.Places[i] = stretchedPlace(x)
	}
	return p
}

func stretchedChanges(l []change) []change {
	l = slices.Clone(l[:cap(l)])
	for i, x := range l {
		l[i].Was, l[i].Now = stretchedPlace(x.Was), stretchedPlace(x.Now)
	}
	return l
}

// spoilPieces changes all of a place's memory, its spare capacity too.
func spoilPieces(x place) {
	for i := range x.Pieces[:cap(x.Pieces)] {
		x.Pieces[:cap(x.Pieces)][i] = piece{Core: 91, Ticks: 92}
	}
}

func spoil(p api.Plan) {
	for i, x := range p.Places[:cap(p.Places)] {
		spoilPieces(x)
		p.Places[:cap(p.Places)][i] = whole(93, 94, 95)
	}
}

func spoilChanges(l []change) {
	for i, x := range l[:cap(l)] {
		spoilPieces(x.Was)
		spoilPieces(x.Now)
		l[:cap(l)][i] = change{Unit: 96, Was: whole(93, 94, 95), Now: whole(97, 98, 99)}
	}
}

func spoilUnits(l []int) {
	for i := range l[:cap(l)] {
		l[:cap(l)][i] = 90
	}
}

// pairs are plans some of which share memory.
func pairs() [][2]api.Plan {
	x := split(5, at(1, 0, 1), at(2, 7))
	a := planOf(8, 7, whole(1, 2, 0), whole(2, 1, 1), x, whole(200, 1, 2), split(1001, at(0, 4), at(2, 0)))
	b := planOf(8, 7, whole(1, 3, 0), whole(3, 1, 1), split(5, at(1, 0, 2), at(2, 7)), split(1001, at(0, 4), at(2, 0)), split(1002, at(0, 0), at(1, 1)))
	shared := planOf(8, 7, whole(1, 2, 1), a.Places[2], split(1040, at(0, 4), at(1, 5)))
	return [][2]api.Plan{{a, b}, {b, a}, {a, a}, {a, planOf(8, 7)}, {planOf(8, 7), b}, {a, shared}, {planOf(8, 7), planOf(4, 1)}, {manySplits(16, 0), manySplits(16, 5)}}
}

// TestWhoMemory holds that Moved, Came, Gone, Resized and Shift change and keep no argument, and that results are memory of their own.
func TestWhoMemory(t *testing.T) {
	for _, k := range pairs() {
		a, b, right := roomy(k[0]), roomy(k[1]), answersOf(k[0], k[1])
		argA, argB := stretched(a), stretched(b)
		got, other := told(a, b), told(a, b)
		for _, l := range [][]int{got.moved, got.came, got.gone, got.resized} {
			spoilUnits(l)
		}
		if !samePlan(stretched(a), argA) || !samePlan(stretched(b), argB) {
			t.Errorf("%v and %v became %v and %v", argA, argB, a, b)
		}
		if later := told(a, b); !sameAnswers(later, right) {
			t.Errorf("%v to %v shares memory with another: %v", a, b, later)
		}
		spoil(a)
		spoil(b)
		if !sameAnswers(other, right) {
			t.Errorf("%v to %v keeps arguments: %v", k[0], k[1], other)
		}
	}
}

// TestChangesMemory holds the same for Changes.
func TestChangesMemory(t *testing.T) {
	for _, k := range pairs() {
		a, b, right := roomy(k[0]), roomy(k[1]), changesOf(k[0], k[1])
		argA, argB := stretched(a), stretched(b)
		got, other := diff.Changes(a, b), diff.Changes(a, b)
		for i := range got {
			spoilPieces(got[i].Was)
			if !samePlace(got[i].Now, right[i].Now) {
				t.Errorf("the Was of %v shares memory with its Now", right[i])
			}
			for j := range got[i+1:] {
				if !sameChanges(got[i+1+j:], right[i+1+j:]) {
					t.Errorf("the changes %v share memory", right)
				}
			}
			spoilPieces(got[i].Now)
		}
		spoilChanges(got)
		if !samePlan(stretched(a), argA) || !samePlan(stretched(b), argB) {
			t.Errorf("Changes(%v, %v) shares memory: %v, %v", argA, argB, a, b)
		}
		if later := diff.Changes(a, b); !sameChanges(other, right) || !sameChanges(later, right) {
			t.Errorf("Changes(%v, %v) shares memory with another: %v, %v", a, b, other, later)
		}
		spoil(a)
		spoil(b)
		if !sameChanges(other, right) {
			t.Errorf("Changes(%v, %v) keeps arguments: %v", k[0], k[1], other)
		}
	}
}

// TestApplyMemory holds the same for Apply.
func TestApplyMemory(t *testing.T) {
	for _, k := range pairs() {
		there := diff.Changes(k[0], k[1])
		for _, l := range [][]change{there, nil, append(deepChanges(there), there...), {{Unit: 1}}, {{Unit: 300}}} {
			p, changes, right := roomy(k[0]), roomyChanges(l), applied(k[0], l...)
			argP, argL := stretched(p), stretchedChanges(changes)
			got, other := diff.Apply(p, changes...), diff.Apply(p, changes...)
			for i := range got.Places {
				spoilPieces(got.Places[i])
				if !samePlan(planOf(0, 0, got.Places[i+1:]...), planOf(0, 0, right.Places[i+1:]...)) {
					t.Errorf("the places of %v share memory", right)
				}
			}
			spoil(got)
			if !samePlan(stretched(p), argP) || !sameChanges(stretchedChanges(changes), argL) {
				t.Errorf("Apply(%v, %v) shares memory: %v, %v", argP, argL, p, changes)
			}
			if later := diff.Apply(p, changes...); !samePlan(other, right) || !samePlan(later, right) {
				t.Errorf("Apply(%v, %v) shares memory with another: %v, %v", p, changes, other, later)
			}
			spoil(p)
			spoilChanges(changes)
			if !samePlan(other, right) {
				t.Errorf("Apply(%v, %v) keeps arguments: %v", k[0], l, other)
			}
		}
	}
}
