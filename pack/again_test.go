package pack_test

import (
	"math"
	"math/bits"
	"math/rand"
	"slices"
	"testing"

	"dogwatch/api"
	"dogwatch/pack"
	"dogwatch/plan"
)

// wantsOf are the wants of a plan by the document's words.
func wantsOf(p api.Plan) []want {
	var l []want
	for _, x := range p.Places {
		l = append(l, wantOf(x.Unit, x.Share))
	}
	return l
}

// checkAgain holds P20.2 of Again for any plan.
func checkAgain(t *testing.T, p api.Plan) api.Plan {
	t.Helper()
	before := deep(p)
	got, e := pack.Again(p)
	if !samePlan(p, before) {
		t.Errorf("Again(%v) left %v", before, p)
	}
	if plan.Check(p) != api.OK {
		if e != api.ErrPlan || !samePlan(got, api.Plan{}) {
			t.Errorf("Again(%v): %v, %d; want nothing, %d", p, got, e, api.ErrPlan)
		}
		return got
	}
	if right := fullOf(p.Frame, p.Cores, wantsOf(p)); e != api.OK || !samePlan(got, right) {
		t.Errorf("Again(%v): %v, %d; want %v", p, got, e, right)
	}
	checkAll(t, got, p.Frame, p.Cores, wantsOf(p))
	checkFew(t, got, p.Frame, p.Cores, wantsOf(p))
	if same, e := pack.Again(got); e != api.OK || !samePlan(same, got) {
		t.Errorf("Again(Again(%v)): %v, %d; want %v", p, same, e, got)
	}
	return got
}

// againIs holds Again, and the model too, against the places that a test names.
func againIs(t *testing.T, p api.Plan, placed ...place) api.Plan {
	t.Helper()
	if plan.Check(p) != api.OK {
		t.Fatalf("%v is not right", p)
	}
	got := checkAgain(t, p)
	right := planOf(p.Frame, p.Cores, slices.SortedFunc(slices.Values(placed), compareUnits)...)
	if !samePlan(got, right) {
		t.Errorf("Again(%v): %v; want %v", p, got, right)
	}
	return got
}

// TestAgainNone holds P20.2 for plans without places.
func TestAgainNone(t *testing.T) {
	for _, f := range []int{2, 3, 10, 64} {
		for _, cores := range []uint32{1, 1 << 15, 3, 0x8001, 0xffff} {
			againIs(t, planOf(f, cores))
			againIs(t, planOf(f, cores, []place{}...))
		}
	}
}

// TestAgainWhole holds P20.2 for whole places, such that stay where they are and such that first fit decreasing lays on other cores.
func TestAgainWhole(t *testing.T) {
	for _, core := range []int{0, 2, 7, 15} {
		againIs(t, planOf(8, 1<<0|1<<2|1<<7|1<<15, whole(5, 3, core)), whole(5, 3, 0))
		againIs(t, planOf(8, 1<<core, whole(5, 3, core)), whole(5, 3, core))
	}
	againIs(t, planOf(8, 3, whole(1, 5, 0), whole(2, 4, 1)), whole(1, 5, 0), whole(2, 4, 1))
	againIs(t, planOf(8, 3, whole(1, 4, 0), whole(2, 5, 1)), whole(1, 4, 1), whole(2, 5, 0))
	againIs(t, planOf(8, 0x8001, whole(1, 4, 0), whole(2, 4, 15)), whole(1, 4, 0), whole(2, 4, 0))
	againIs(t, planOf(8, 7, whole(1, 1, 2), whole(2, 1, 1), whole(1001, 3, 2), whole(1040, 3, 1)), whole(1, 1, 0), whole(2, 1, 0), whole(1001, 3, 0), whole(1040, 3, 0))
	// As they lie all are whole; first fit decreasing has one left over.
	againIs(t, planOf(6, 3, whole(1, 4, 0), whole(2, 3, 1), whole(3, 3, 1), whole(4, 2, 0)), whole(1, 4, 0), whole(2, 3, 1), whole(3, 3, 1), whole(4, 2, 0))
	againIs(t, planOf(12, 3, whole(1, 5, 0), whole(2, 5, 1), whole(3, 4, 0), whole(4, 4, 1), whole(5, 3, 0), whole(6, 3, 1)),
		whole(1, 5, 0), whole(2, 5, 0), whole(3, 4, 1), whole(4, 4, 1), whole(5, 3, 1), split(6, 3, at(0, 0, 1), at(1, 2)))
}

// TestAgainSplit holds P20.2 for split places: they become whole, or are split as the chain goes, or others are.
func TestAgainSplit(t *testing.T) {
	againIs(t, planOf(8, 6, split(3, 4, at(1, 0, 1), at(2, 2, 3))), whole(3, 4, 1))
	againIs(t, planOf(8, 7, split(3, 8, at(0, 0, 2, 4, 6), at(2, 1, 3, 5, 7)), split(5, 8, at(0, 1, 3, 5, 7), at(2, 0, 2, 4, 6))), whole(3, 8, 0), whole(5, 8, 1))
	againIs(t, planOf(4, 3, whole(1, 3, 0), whole(2, 3, 1), split(3, 2, at(0, 3), at(1, 2))), whole(1, 3, 0), whole(2, 3, 1), split(3, 2, at(0, 0), at(1, 1)))
	againIs(t, planOf(4, 3, split(1, 3, at(0, 3), at(1, 1, 2)), whole(2, 3, 0), whole(3, 2, 1)), whole(1, 3, 0), whole(2, 3, 1), split(3, 2, at(0, 0), at(1, 1)))
	againIs(t, planOf(5, 7, whole(1, 3, 2), whole(2, 3, 1), whole(3, 3, 0), split(4, 3, at(0, 4, 3), at(2, 2)), split(1001, 2, at(1, 0), at(2, 1))),
		whole(1, 3, 0), whole(2, 3, 1), whole(3, 3, 2), whole(1001, 2, 0), split(4, 3, at(1, 0, 1), at(2, 2)))
}

// TestAgainFull holds P20.2 for plans without any free tick.
func TestAgainFull(t *testing.T) {
	againIs(t, planOf(2, 1<<15, whole(7, 2, 15)), whole(7, 2, 15))
	againIs(t, planOf(6, 3, whole(1, 1, 0), whole(2, 5, 0), whole(3, 2, 1), whole(4, 4, 1)), whole(1, 1, 0), whole(2, 5, 0), whole(3, 2, 1), whole(4, 4, 1))
	againIs(t, planOf(6, 3, whole(1, 2, 0), whole(2, 4, 0), whole(3, 1, 1), whole(4, 5, 1)), whole(1, 2, 1), whole(2, 4, 1), whole(3, 1, 0), whole(4, 5, 0))
	againIs(t, planOf(3, 0x8001, whole(1, 2, 15), split(2, 2, at(0, 2), at(15, 0)), whole(3, 2, 0)), whole(1, 2, 0), whole(2, 2, 15), split(3, 2, at(0, 0), at(15, 1)))
	for _, f := range []int{2, 64} {
		p, q := planOf(f, 0xffff), planOf(f, 0xffff)
		for core := range 16 {
			p.Places = append(p.Places, whole(10+core, f, 15-core))
			q.Places = append(q.Places, whole(10+core, f, core))
		}
		againIs(t, p, q.Places...)
		againIs(t, q, q.Places...)
	}
}

// wrongPlans are plans each of which breaks one condition of chapter 16, but for the zero one; all have wants that would fit.
func wrongPlans() []api.Plan {
	half := split(3, 4, at(0, 0, 1), at(1, 2, 3))
	l := []api.Plan{
		{},
		planOf(8, 7, whole(2, 1, 0), whole(1, 1, 0)), planOf(8, 3, whole(2, 1, 0), whole(2, 1, 1)), planOf(8, 7, half, half),
		planOf(8, 3, whole(1, 1, 2)), planOf(8, 1<<15, whole(1, 1, 0)), planOf(8, 3, whole(1, 1, -1)), planOf(8, 3, whole(1, 1, 16)),
		planOf(8, 3, whole(1, 0, 0)), planOf(8, 3, whole(1, -1, 0)), planOf(8, 3, whole(1, 9, 0)),
		planOf(8, 7, whole(1, 4, 0), whole(2, 5, 0)), planOf(8, 7, whole(1, 7, 0), half),
		planOf(8, 7, split(3, 2, at(0, 0, 1))), planOf(8, 7, split(3, 4, at(1, 2, 3), at(0, 0, 1))), planOf(8, 7, split(3, 4, at(0, 0, 1), at(0, 2, 3))),
		planOf(8, 7, split(3, 2, at(0, 0, 1), at(1))), planOf(8, 7, split(3, 4, at(0, 0, 1), at(1, 2, 8))), planOf(8, 7, split(3, 4, at(0, 0, 1), at(3, 2, 3))),
		planOf(8, 7, split(3, 4, at(0, 0, 1), at(1, 1, 3))), planOf(8, 7, split(3, 3, at(0, 0, 1), at(1, 1, 3))),
		planOf(8, 7, split(3, 3, at(0, 0, 1), at(1, 2, 3))), planOf(8, 7, split(3, 5, at(0, 0, 1), at(1, 2, 3))),
		planOf(8, 7, place{Unit: 3, Share: 4, Core: 1, Pieces: half.Pieces}),
		planOf(8, 7, half, split(4, 2, at(0, 1), at(1, 0))),
		planOf(8, 3, half, split(4, 2, at(0, 7), at(1, 6))),
		planOf(8, 1, split(3, 2, at(0, 0), at(0, 1))),
	}
	for _, cores := range wrongCores() {
		l = append(l, planOf(8, cores), planOf(8, cores, whole(1, 1, 0)))
	}
	for _, f := range wrongFrames {
		l = append(l, planOf(f, 3), planOf(f, 3, whole(1, 1, 0)))
	}
	for _, unit := range append([]int{0, 201, 1000, 1041}, farNumbers...) {
		l = append(l, planOf(8, 3, whole(unit, 1, 0)))
	}
	return l
}

// TestAgainWrong holds P20.2 for plans that are not valid, too much on all cores together among them.
func TestAgainWrong(t *testing.T) {
	for _, p := range append(wrongPlans(), planOf(8, 1, whole(1, 8, 0), whole(2, 1, 0)), planOf(8, 1, whole(1, math.MaxInt, 0), whole(2, math.MaxInt, 0), whole(3, 2, 0))) {
		if plan.Check(p) != api.ErrPlan {
			t.Errorf("%v is right", p)
		}
		if got, e := pack.Again(p); e != api.ErrPlan || !samePlan(got, api.Plan{}) {
			t.Errorf("Again(%v): %v, %d", p, got, e)
		}
		checkAgain(t, p)
	}
}

// somePlan is a right one: places of random units are put where there is room, some of them split.
func somePlan(rng *rand.Rand) api.Plan {
	p := planOf(someFrame(rng), someCores(rng))
	cores := plan.Cores(p)
	for range rng.Intn(30) {
		unit := someUnit(rng)
		x := whole(unit, 1+rng.Intn(p.Frame), cores[rng.Intn(len(cores))])
		if rng.Intn(2) == 0 {
			x = someSplit(rng, p, unit)
		}
		if _, there := plan.Find(p, unit); there {
			continue
		}
		if q := plan.Put(p, x); plan.Check(q) == api.OK {
			p = q
		}
	}
	return p
}

// someSplit takes ticks on cores that have room and no window there. It may have too few pieces for a place.
func someSplit(rng *rand.Rand, p api.Plan, unit int) place {
	x, own, cores := place{Unit: unit}, [16]uint64{}, plan.Cores(p)
	for _, tick := range rng.Perm(p.Frame)[:1+rng.Intn(p.Frame)] {
		core := cores[rng.Intn(len(cores))]
		if bits.OnesCount64(own[core]) < roomOf(p, core) && plan.Windows(p, core)>>tick%2 == 0 {
			own[core] |= 1 << tick
			x.Share++
		}
	}
	x.Pieces = piecesOf(own)
	return x
}

// TestAgainAny holds P20.2 for any right plans, and for such in which a number was changed.
func TestAgainAny(t *testing.T) {
	rng := rand.New(rand.NewSource(204))
	splits, still, wrong := 0, 0, 0
	for range 5000 {
		p := somePlan(rng)
		got := checkAgain(t, p)
		splits += plan.Splits(p)
		still += plan.Splits(got)
		if len(p.Places) == 0 {
			continue
		}
		x := &p.Places[rng.Intn(len(p.Places))]
		x.Share += rng.Intn(3) - 1
		x.Core ^= rng.Intn(2)
		checkAgain(t, p)
		if plan.Check(p) != api.OK {
			wrong++
		}
	}
	if splits < 1000 || still < 100 || wrong < 500 {
		t.Error(splits, still, wrong)
	}
}

// TestAgainOfFull holds P20.2 for what Full answers, as it is, and without one of its places.
func TestAgainOfFull(t *testing.T) {
	rng := rand.New(rand.NewSource(205))
	for range 2000 {
		f, cores := someFrame(rng), someCores(rng)
		p, e := pack.Full(f, cores, someWants(rng, f, f*countOf(cores))...)
		if e != api.OK {
			t.Fatal(f, cores, e)
		}
		againIs(t, p, p.Places...)
		for _, x := range p.Places {
			if rng.Intn(4) == 0 {
				p = plan.Drop(p, x.Unit)
			}
		}
		checkAgain(t, p)
	}
}

// roomy is a plan whose places and pieces have spare capacity, in which something stands.
func roomy(p api.Plan) api.Plan {
	q := deep(p)
	q.Places = append(q.Places, whole(77, 77, 77), whole(78, 78, 78))[:len(p.Places)]
	for i, x := range q.Places {
		q.Places[i].Pieces = append(x.Pieces, at(79, 1), at(80, 2))[:len(x.Pieces)]
	}
	return q
}

// stretched is a plan whose spare capacity is part of it.
func stretched(p api.Plan) api.Plan {
	p.Places = slices.Clone(p.Places[:cap(p.Places)])
	for i, x := range p.Places {
		p.Places[i].Pieces = slices.Clone(x.Pieces[:cap(x.Pieces)])
	}
	return p
}

// TestAgainMemory holds that no argument is changed or kept, and that results are memory of their own, even if the plan stays as it was.
func TestAgainMemory(t *testing.T) {
	same, _ := pack.Full(5, 7, shares(3, 3, 3, 3, 3)...)
	for _, k := range []api.Plan{
		planOf(4, 3), planOf(8, 3, whole(1, 4, 0), whole(2, 5, 1)), same, plan.Drop(same, 2),
		planOf(8, 6, split(3, 4, at(1, 0, 1), at(2, 2, 3))), planOf(8, 7, whole(1, 8, 0), whole(2, 1, 0)),
	} {
		p := roomy(k)
		args, right := stretched(p), api.Plan{}
		if plan.Check(k) == api.OK {
			right = fullOf(k.Frame, k.Cores, wantsOf(k))
		}
		got, _ := pack.Again(p)
		other, _ := pack.Again(p)
		spoil(got)
		if !samePlan(stretched(p), args) {
			t.Errorf("Again(%v) shares memory: %v", k, p)
		}
		if later, _ := pack.Again(p); !samePlan(other, right) || !samePlan(later, right) {
			t.Errorf("Again(%v) shares memory with another: %v, %v", k, other, later)
		}
		spoil(p)
		if !samePlan(other, right) {
			t.Errorf("Again(%v) keeps its argument: %v", k, other)
		}
	}
}
