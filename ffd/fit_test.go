package ffd_test

import (
	"cmp"
	"math"
	"math/rand"
	"slices"
	"testing"

	"dogwatch/api"
	"dogwatch/ffd"
	"dogwatch/order"
	"dogwatch/plan"
)

func compareUnits(a, b place) int { return cmp.Compare(a.Unit, b.Unit) }

// fitOf is the model of Fit for wants that may be placed: of those that remain, the next one is sought each time.
func fitOf(p api.Plan, l []want) (api.Plan, []want) {
	p = deep(p)
	rest := slices.Clone(l)
	var over []want
	for len(rest) > 0 {
		next := 0
		for i, w := range rest {
			if w.Share > rest[next].Share || w.Share == rest[next].Share && w.Unit < rest[next].Unit {
				next = i
			}
		}
		w := rest[next]
		rest = slices.Delete(rest, next, next+1)
		if core, ok := firstOf(p, w.Share); ok {
			p.Places = append(p.Places, whole(w.Unit, w.Share, core))
		} else {
			over = append(over, w)
		}
	}
	slices.SortFunc(p.Places, compareUnits)
	return p, over
}

// errorOf is the error of Fit by the document's words.
func errorOf(p api.Plan, l []want) api.Errno {
	if e := plan.Check(p); e != api.OK {
		return api.ErrPlan
	}
	if e := order.Check(p.Frame, l...); e != api.OK {
		return e
	}
	for _, w := range l {
		for _, x := range p.Places {
			if x.Unit == w.Unit {
				return api.ErrTwice
			}
		}
	}
	return api.OK
}

// checkFit holds P18.2 for any plan and wants, and the properties of what it comes to.
func checkFit(t *testing.T, p api.Plan, l []want) (api.Plan, []want) {
	t.Helper()
	before, wants := deep(p), slices.Clone(l)
	got, over, e := ffd.Fit(p, l...)
	if !samePlan(p, before) || !slices.Equal(l, wants) {
		t.Errorf("Fit(%v, %v) left %v, %v", before, wants, p, l)
	}
	if wrong := errorOf(p, l); wrong != api.OK {
		if e != wrong || !samePlan(got, api.Plan{}) || len(over) != 0 {
			t.Errorf("Fit(%v, %v): %v, %v, %d; want nothing, %d", p, l, got, over, e, wrong)
		}
		return got, over
	}
	if m, rest := fitOf(p, l); e != api.OK || !samePlan(got, m) || !slices.Equal(over, rest) {
		t.Errorf("Fit(%v, %v): %v, %v, %d; want %v, %v", p, l, got, over, e, m, rest)
	}
	checkStable(t, p, got)
	checkAll(t, p, got, l, over)
	checkTight(t, got, over)
	return got, over
}

// checkStable holds P18.6: all places that were there are there as they were.
func checkStable(t *testing.T, p, got api.Plan) {
	t.Helper()
	if plan.Check(got) != api.OK || got.Frame != p.Frame || got.Cores != p.Cores {
		t.Errorf("%v became %v", p, got)
	}
	rest := deep(got)
	rest.Places = slices.DeleteFunc(rest.Places, func(x place) bool {
		return !slices.ContainsFunc(p.Places, func(y place) bool { return x.Unit == y.Unit })
	})
	if !samePlan(rest, p) {
		t.Errorf("%v became %v", p, got)
	}
}

// checkAll holds that what is placed, each unit whole, and what is left over are together what was wanted.
func checkAll(t *testing.T, p, got api.Plan, l, over []want) {
	t.Helper()
	all := slices.Clone(over)
	for _, x := range got.Places {
		if slices.ContainsFunc(p.Places, func(y place) bool { return x.Unit == y.Unit }) {
			continue
		}
		all = append(all, wantOf(x.Unit, x.Share))
		if len(x.Pieces) != 0 {
			t.Errorf("%v became %v", p, got)
		}
	}
	byUnit := func(a, b want) int { return cmp.Compare(a.Unit, b.Unit) }
	slices.SortFunc(all, byUnit)
	if !slices.Equal(all, slices.SortedFunc(slices.Values(l), byUnit)) {
		t.Errorf("%v of %v placed in %v, %v left over", l, p, got, over)
	}
}

// checkTight holds P18.4, and that what is left over is in its order.
func checkTight(t *testing.T, got api.Plan, over []want) {
	t.Helper()
	for i, w := range over {
		for core := range 16 {
			if w.Share <= roomOf(got, core) {
				t.Errorf("%v is left over from %v", w, got)
			}
		}
		if i > 0 && (over[i-1].Share < w.Share || over[i-1].Share == w.Share && over[i-1].Unit >= w.Unit) {
			t.Errorf("%v are left over", over)
		}
	}
}

// coreSets are some sets of this many cores: the lowest ones, the highest ones, and some with gaps between.
func coreSets(cores int) []uint32 {
	var gaps uint32
	for _, core := range []int{15, 0, 7, 3, 11, 1, 13, 5, 9, 2, 14, 6, 10, 4, 12, 8}[:cores] {
		gaps |= 1 << core
	}
	low := uint32(1)<<cores - 1
	return []uint32{low, low << (16 - cores), gaps}
}

// suffices holds P18.5 for wants of which Sure is true.
func suffices(t *testing.T, f, cores int, l []want) {
	t.Helper()
	for _, set := range coreSets(cores) {
		got, over, e := ffd.Fit(planOf(f, set), l...)
		if e != api.OK || len(over) != 0 || len(got.Places) != len(l) {
			t.Errorf("Fit of %v on %b in %d: %v, %v, %d, though it is sure", l, set, f, got, over, e)
		}
	}
}

// fitIs holds Fit, and the model too, against what a test names: the wants that are left over, and the places besides those of the plan.
func fitIs(t *testing.T, p api.Plan, l, over []want, placed ...place) api.Plan {
	t.Helper()
	if e := errorOf(p, l); e != api.OK {
		t.Fatalf("%v, %v: %d", p, l, e)
	}
	got, rest := checkFit(t, p, l)
	right := planOf(p.Frame, p.Cores, slices.Concat(p.Places, placed)...)
	slices.SortFunc(right.Places, compareUnits)
	if !samePlan(got, right) || !slices.Equal(rest, over) {
		t.Errorf("Fit(%v, %v): %v, %v; want %v, %v", p, l, got, rest, right, over)
	}
	return got
}

// fails holds Fit, and the model too, against an error that a test names.
func fails(t *testing.T, e api.Errno, p api.Plan, l ...want) {
	t.Helper()
	if wrong := errorOf(p, l); wrong != e {
		t.Errorf("the model of %v, %v: %d", p, l, wrong)
	}
	got, over, wrong := ffd.Fit(p, l...)
	if wrong != e || !samePlan(got, api.Plan{}) || len(over) != 0 {
		t.Errorf("Fit(%v, %v): %v, %v, %d; want nothing, %d", p, l, got, over, wrong, e)
	}
	checkFit(t, p, l)
}

// busy is a plan of a frame of 10 whose cores 3, 5, 7 and 15 have the rooms 2, 8, 10 and 0; two of its units are split.
func busy() api.Plan {
	return planOf(10, 1<<3|1<<5|1<<7|1<<15,
		whole(2, 3, 3),
		split(5, 6, at(3, 0, 9), at(15, 1, 2, 3, 4)),
		whole(9, 1, 15),
		whole(200, 2, 3),
		split(1001, 4, at(3, 4), at(5, 0, 1), at(15, 5)),
		whole(1004, 4, 15),
	)
}

// full is a plan that has no room.
func full() api.Plan {
	return planOf(4, 3, whole(1, 3, 0), split(2, 3, at(0, 0), at(1, 1, 2)), whole(1001, 2, 1))
}

// TestFitNone holds P18.2 for no wants: the plan is as it was.
func TestFitNone(t *testing.T) {
	for _, p := range []api.Plan{planOf(2, 1), planOf(64, 0xffff), planOf(8, 1<<15), busy(), full(), stairs()} {
		fitIs(t, p, nil, nil)
		fitIs(t, p, []want{}, nil)
	}
}

// TestFit holds P18.2 for places that a test names.
func TestFit(t *testing.T) {
	// All fit: the greatest ones first, each on the lowest core that has room.
	fitIs(t, planOf(10, 7), shares(7, 6, 5, 4, 3, 3, 2), nil,
		whole(1, 7, 0), whole(2, 6, 1), whole(3, 5, 2), whole(4, 4, 1), whole(5, 3, 0), whole(6, 3, 2), whole(7, 2, 2))
	// The first does not fit, later ones do.
	fitIs(t, planOf(10, 6, whole(7, 4, 1), whole(8, 5, 2)), shares(7, 6, 5, 1), []want{wantOf(1, 7), wantOf(4, 1)}, whole(2, 6, 1), whole(3, 5, 2))
	fitIs(t, planOf(10, 6, whole(7, 4, 1), whole(8, 6, 2)), shares(8, 6, 5, 3, 1), []want{wantOf(1, 8), wantOf(3, 5)}, whole(2, 6, 1), whole(4, 3, 2), whole(5, 1, 2))
	// None fits.
	fitIs(t, planOf(10, 6, whole(7, 8, 1), whole(8, 7, 2)), shares(4, 10, 6), []want{wantOf(2, 10), wantOf(3, 6), wantOf(1, 4)})
	fitIs(t, full(), []want{wantOf(3, 1), wantOf(1040, 4), wantOf(4, 1)}, []want{wantOf(1040, 4), wantOf(3, 1), wantOf(4, 1)})
	// One want, exactly the room and one more.
	for _, core := range []int{0, 7, 15} {
		p := planOf(8, 1<<core, whole(7, 3, core))
		fitIs(t, p, []want{wantOf(1, 5)}, nil, whole(1, 5, core))
		fitIs(t, p, []want{wantOf(1040, 5)}, nil, whole(1040, 5, core))
		fitIs(t, p, []want{wantOf(1, 6)}, []want{wantOf(1, 6)})
		fitIs(t, planOf(64, 1<<core), []want{wantOf(1, 64)}, nil, whole(1, 64, core))
		fitIs(t, planOf(64, 1<<core), shares(1, 64), []want{wantOf(1, 1)}, whole(2, 64, core))
	}
	// Not the core that has the most room, nor the one whose room suits best, nor the one behind the last.
	fitIs(t, planOf(10, 7, whole(7, 3, 0), whole(8, 5, 2)), []want{wantOf(1, 5), wantOf(2, 2)}, nil, whole(1, 5, 0), whole(2, 2, 0))
	fitIs(t, planOf(10, 7), shares(9, 8, 7, 3, 1), nil, whole(1, 9, 0), whole(2, 8, 1), whole(3, 7, 2), whole(4, 3, 2), whole(5, 1, 0))
}

// TestFitOrder holds P18.2 for wants in any order, equal Shares among them: the less units are placed first.
func TestFitOrder(t *testing.T) {
	for _, l := range permutations([]want{wantOf(3, 2), wantOf(1, 2), wantOf(1001, 2), wantOf(200, 3), wantOf(40, 1)}) {
		fitIs(t, planOf(5, 5), l, nil, whole(200, 3, 0), whole(1, 2, 0), whole(3, 2, 2), whole(1001, 2, 2), whole(40, 1, 2))
		fitIs(t, planOf(3, 5), l, []want{wantOf(3, 2), wantOf(1001, 2)}, whole(200, 3, 0), whole(1, 2, 2), whole(40, 1, 2))
		fitIs(t, planOf(3, 1<<15, whole(2, 1, 15)), l, []want{wantOf(200, 3), wantOf(3, 2), wantOf(1001, 2), wantOf(40, 1)}, whole(1, 2, 15))
	}
	for _, l := range permutations([]want{wantOf(7, 2), wantOf(2, 2), wantOf(199, 2), wantOf(1007, 2)}) {
		fitIs(t, planOf(2, 0b1011), l, []want{wantOf(1007, 2)}, whole(2, 2, 0), whole(7, 2, 1), whole(199, 2, 3))
		fitIs(t, planOf(4, 0b1000), l, []want{wantOf(199, 2), wantOf(1007, 2)}, whole(2, 2, 3), whole(7, 2, 3))
	}
}

// TestFitBusy holds P18.2 for plans that hold places already: their cores have lost room, to windows too, and the new places lie between the old ones.
func TestFitBusy(t *testing.T) {
	l := []want{wantOf(1, 2), wantOf(7, 8), wantOf(199, 7), wantOf(1002, 3), wantOf(1040, 1)}
	p := fitIs(t, busy(), l, []want{wantOf(1040, 1)}, whole(7, 8, 5), whole(199, 7, 7), whole(1002, 3, 7), whole(1, 2, 3))
	var units []int
	for _, x := range p.Places {
		units = append(units, x.Unit)
	}
	if !slices.Equal(units, []int{1, 2, 5, 7, 9, 199, 200, 1001, 1002, 1004}) {
		t.Error(units)
	}
	fitIs(t, p, []want{wantOf(3, 1), wantOf(1040, 10)}, []want{wantOf(1040, 10), wantOf(3, 1)})
	fitIs(t, busy(), []want{wantOf(1, 1), wantOf(3, 1), wantOf(4, 1)}, nil, whole(1, 1, 3), whole(3, 1, 3), whole(4, 1, 5))
	// A core that is windows up to one tick, and one that is all windows.
	q := planOf(4, 7, split(3, 4, at(0, 0, 1, 2), at(1, 3)), split(5, 4, at(1, 0, 1, 2), at(2, 3)))
	fitIs(t, q, shares(4, 3), []want{wantOf(1, 4)}, whole(2, 3, 2))
	fitIs(t, q, []want{wantOf(1, 1), wantOf(4, 2), wantOf(6, 2), wantOf(7, 1)}, []want{wantOf(6, 2)}, whole(4, 2, 2), whole(1, 1, 0), whole(7, 1, 2))
}

// TestFitGreat holds P18.2 for the greatest frame, all cores and as many units as there may be.
func TestFitGreat(t *testing.T) {
	p := planOf(64, 0xffff)
	fitIs(t, p, shares(slices.Repeat([]int{4}, 240)...), nil, placesOf(4, 16, 240)...)
	fitIs(t, p, shares(slices.Repeat([]int{5}, 240)...), shares(slices.Repeat([]int{5}, 240)...)[192:], placesOf(5, 12, 192)...)
	fitIs(t, p, shares(slices.Repeat([]int{64}, 20)...), shares(slices.Repeat([]int{64}, 20)...)[16:], placesOf(64, 1, 16)...)
	fitIs(t, p, shares(slices.Repeat([]int{33}, 17)...), []want{wantOf(17, 33)}, placesOf(33, 1, 16)...)
	fitIs(t, planOf(2, 0xffff), shares(slices.Repeat([]int{1}, 33)...), []want{wantOf(33, 1)}, placesOf(1, 2, 32)...)
}

// placesOf are so many places of a share, so many on each core.
func placesOf(share, each, n int) []place {
	var l []place
	for i, w := range shares(slices.Repeat([]int{share}, n)...) {
		l = append(l, whole(w.Unit, share, i/each))
	}
	return l
}

// TestFitErrors holds P18.2 for each error alone.
func TestFitErrors(t *testing.T) {
	for _, p := range wrongPlans() {
		fails(t, api.ErrPlan, p)
		fails(t, api.ErrPlan, p, wantOf(150, 1))
		fails(t, api.ErrPlan, p, shares(1, 2)...)
	}
	p := planOf(8, 3, whole(1, 4, 0), split(3, 4, at(0, 0, 1), at(1, 2, 3)), whole(1001, 6, 1))
	fitIs(t, p, []want{wantOf(5, 2), wantOf(6, 8)}, []want{wantOf(6, 8)}, whole(5, 2, 0))
	for _, unit := range append([]int{0, 201, 1000, 1041, 2001}, farNumbers...) {
		fails(t, api.ErrID, p, wantOf(unit, 1))
		fails(t, api.ErrID, p, wantOf(5, 2), wantOf(unit, 1), wantOf(6, 8))
	}
	for _, share := range append([]int{0, 9, 64, 65}, farNumbers...) {
		fails(t, api.ErrShare, p, wantOf(5, share))
		fails(t, api.ErrShare, p, wantOf(5, 8), wantOf(6, 1), wantOf(7, share))
	}
	fails(t, api.ErrTwice, p, wantOf(5, 2), wantOf(5, 2))
	fails(t, api.ErrTwice, p, wantOf(5, 2), wantOf(6, 2), wantOf(5, 8))
	fails(t, api.ErrTwice, p, append(shares(slices.Repeat([]int{1}, 240)...)[2:], wantOf(200, 1))...)
	// Units of the plan: whole, split, a group; wanted first or last, with room or without.
	for _, unit := range []int{1, 3, 1001} {
		for _, share := range []int{1, 2, 4, 8} {
			fails(t, api.ErrTwice, p, wantOf(unit, share))
			fails(t, api.ErrTwice, p, wantOf(unit, share), wantOf(5, 2))
			fails(t, api.ErrTwice, p, wantOf(5, 8), wantOf(6, 1), wantOf(unit, share))
		}
	}
	fails(t, api.ErrTwice, full(), wantOf(2, 1))
	fitIs(t, p, []want{wantOf(2, 2), wantOf(200, 1), wantOf(1002, 1)}, []want{wantOf(200, 1), wantOf(1002, 1)}, whole(2, 2, 0))
}

// TestFitPairs holds P18.2 for errors at once: which one is named.
func TestFitPairs(t *testing.T) {
	p := planOf(8, 3, whole(1, 4, 0), split(3, 4, at(0, 0, 1), at(1, 2, 3)))
	wrong := plan.Put(p, whole(1002, 3, 0))
	faults := []struct {
		e api.Errno
		l []want
	}{
		{api.ErrID, []want{wantOf(300, 1)}},
		{api.ErrShare, []want{wantOf(7, 9)}},
		{api.ErrTwice, []want{wantOf(8, 1), wantOf(8, 2)}},
	}
	for _, k := range faults {
		fails(t, k.e, p, k.l...)
		fails(t, api.ErrPlan, wrong, k.l...)
		for _, unit := range []int{1, 3} {
			there := wantOf(unit, 1)
			fails(t, api.ErrPlan, wrong, there)
			fails(t, k.e, p, append(k.l, there)...)
			fails(t, k.e, p, append([]want{there}, k.l...)...)
			fails(t, api.ErrPlan, wrong, append([]want{there}, k.l...)...)
		}
		// Of the errors of the wants the one of the first want that has any.
		for _, other := range faults {
			fails(t, k.e, p, append(slices.Clone(k.l), other.l...)...)
			fails(t, api.ErrPlan, wrong, append(slices.Clone(k.l), other.l...)...)
		}
	}
	// Several of one want.
	fails(t, api.ErrID, p, wantOf(300, 9))
	fails(t, api.ErrID, p, wantOf(5, 1), wantOf(0, 0), wantOf(0, 1))
	fails(t, api.ErrShare, p, wantOf(5, 1), wantOf(5, 9))
	fails(t, api.ErrShare, p, wantOf(1, 9))
	fails(t, api.ErrShare, p, wantOf(3, 0))
	fails(t, api.ErrTwice, p, wantOf(1, 1), wantOf(1, 1))
	fails(t, api.ErrShare, p, wantOf(1, 1), wantOf(1, 0))
	// A frame that may not be is the plan's error.
	for _, f := range append([]int{0, 1, 65}, farNumbers...) {
		fails(t, api.ErrPlan, planOf(f, 3), wantOf(300, 9), wantOf(1, 1), wantOf(1, 1))
	}
}

// TestFitSmall holds P18.2 to P18.6 for all shares of a few units, in small frames.
func TestFitSmall(t *testing.T) {
	for f := 2; f <= 4; f++ {
		for _, cores := range []uint32{1, 1 << 15, 0b11, 0b1010, 0b111} {
			for n := 0; n <= 5; n++ {
				for code := range int(math.Pow(float64(f), float64(n))) {
					l := shares(digits(code, f, n)...)
					checkFit(t, planOf(f, cores), l)
					if checkSure(t, f, len(plan.Cores(planOf(f, cores))), l) {
						suffices(t, f, len(plan.Cores(planOf(f, cores))), l)
					}
				}
			}
		}
	}
}

// digits are n numbers from 1 to f, another row for each code.
func digits(code, f, n int) []int {
	var l []int
	for range n {
		l = append(l, 1+code%f)
		code /= f
	}
	return l
}

// TestFitAny holds P18.2, P18.4 and P18.6 for any plans and wants, some of which may not be.
func TestFitAny(t *testing.T) {
	rng := rand.New(rand.NewSource(182))
	all, some, none, wrong := 0, 0, 0, 0
	for range 6000 {
		p := somePlan(rng)
		l := someWants(rng, p.Frame, 2+rng.Intn(30))
		if rng.Intn(3) > 0 {
			l = slices.DeleteFunc(l, func(w want) bool { return errorOf(p, []want{w}) != api.OK })
		}
		if rng.Intn(10) == 0 && len(l) > 0 {
			l[rng.Intn(len(l))].Share += rng.Intn(9) - 4
			l[rng.Intn(len(l))].Unit += rng.Intn(3) - 1
		}
		_, over := checkFit(t, p, l)
		switch {
		case errorOf(p, l) != api.OK:
			wrong++
		case len(over) == 0:
			all++
		case len(over) == len(l):
			none++
		default:
			some++
		}
	}
	if all < 500 || some < 500 || none < 100 || wrong < 500 {
		t.Error(all, some, none, wrong)
	}
}

// roomy is a plan whose places and pieces have spare capacity, in which something stands.
func roomy(p api.Plan) api.Plan {
	q := deep(p)
	q.Places = append(q.Places, whole(77, 77, 77), whole(78, 78, 78))[:len(p.Places)]
	for i, x := range q.Places {
		q.Places[i].Pieces = append(x.Pieces, at(79, 1), at(80, 2))[:len(x.Pieces)]
	}
	return q
}

// stretched is a plan whose spare capacity is part of it.
func stretched(p api.Plan) api.Plan {
	p.Places = slices.Clone(p.Places[:cap(p.Places)])
	for i, x := range p.Places {
		p.Places[i].Pieces = slices.Clone(x.Pieces[:cap(x.Pieces)])
	}
	return p
}

// spoil changes all of a plan's memory, its spare capacity too.
func spoil(p api.Plan) {
	for i, x := range p.Places[:cap(p.Places)] {
		for j := range x.Pieces[:cap(x.Pieces)] {
			x.Pieces[:cap(x.Pieces)][j] = piece{Core: 91, Ticks: 92}
		}
		p.Places[:cap(p.Places)][i] = whole(93, 94, 95)
	}
}

func spoilWants(l []want) {
	for i := range l[:cap(l)] {
		l[:cap(l)][i] = wantOf(96, 97)
	}
}

// TestFitMemory holds that no argument is changed or kept, and that results are memory of their own, whatever is placed.
func TestFitMemory(t *testing.T) {
	for _, k := range []struct {
		p api.Plan
		l []want
	}{
		{planOf(4, 3), nil}, {planOf(4, 3), shares(1, 4, 2)}, {busy(), nil}, {full(), nil},
		{busy(), []want{wantOf(1, 2), wantOf(7, 8), wantOf(1002, 5)}},
		{busy(), []want{wantOf(8, 10), wantOf(1, 10), wantOf(7, 10), wantOf(1002, 1)}},
		{full(), []want{wantOf(3, 1), wantOf(1040, 4), wantOf(4, 1)}},
	} {
		p := roomy(k.p)
		l := append(slices.Clone(k.l), wantOf(98, 99), wantOf(100, 101))
		args, wants := stretched(p), slices.Clone(l)
		got, over, _ := ffd.Fit(p, l[:len(k.l)]...)
		other, rest, _ := ffd.Fit(p, l[:len(k.l)]...)
		right, left := fitOf(k.p, k.l)
		spoil(got)
		spoilWants(over)
		if !samePlan(stretched(p), args) || !slices.Equal(l, wants) {
			t.Errorf("Fit(%v, %v) shares memory: %v, %v", k.p, k.l, p, l)
		}
		if !samePlan(other, right) || !slices.Equal(rest, left) {
			t.Errorf("Fit(%v, %v) shares memory with another: %v, %v", k.p, k.l, other, rest)
		}
		spoil(p)
		spoilWants(l)
		if !samePlan(other, right) || !slices.Equal(rest, left) {
			t.Errorf("Fit(%v, %v) keeps arguments: %v, %v", k.p, k.l, other, rest)
		}
		// What is appended to the pieces of one place is not in another one.
		for _, x := range other.Places {
			_ = append(x.Pieces, at(81, 3))
		}
		if !samePlan(other, right) || !slices.Equal(rest, left) {
			t.Errorf("Fit(%v, %v) shares memory within: %v, %v", k.p, k.l, other, rest)
		}
	}
}

// TestFitErrorMemory holds that no argument is changed beside an error, or by First.
func TestFitErrorMemory(t *testing.T) {
	p, l := roomy(busy()), append(shares(3, 1), wantOf(98, 99))
	args, wants := stretched(p), slices.Clone(l)
	fails(t, api.ErrTwice, p, l[:2]...)
	fails(t, api.ErrShare, p, append(l[:1:1], wantOf(7, 11))...)
	checkFirst(t, p, 2)
	if !samePlan(stretched(p), args) || !slices.Equal(l, wants) {
		t.Error(p, l)
	}
}
