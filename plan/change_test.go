package plan_test

import (
	"math"
	"math/rand"
	"reflect"
	"slices"
	"testing"

	"dogwatch/api"
	"dogwatch/plan"
)

// deep is a plan that shares no memory with another one; what is empty is nil.
func deep(p api.Plan) api.Plan {
	var places []place
	for _, x := range p.Places {
		x.Pieces = append([]piece(nil), x.Pieces...)
		places = append(places, x)
	}
	p.Places = places
	return p
}

// samePlan is the model of Same.
func samePlan(a, b api.Plan) bool { return reflect.DeepEqual(deep(a), deep(b)) }

func samePlace(a, b place) bool { return samePlan(planOf(8, 1, a), planOf(8, 1, b)) }

// find is the model of Find.
func find(p api.Plan, unit int) (place, bool) {
	for _, x := range p.Places {
		if x.Unit == unit {
			return x, true
		}
	}
	return place{}, false
}

// put is the model of Put: the place goes before the first that has a greater unit.
func put(p api.Plan, x place) api.Plan {
	q := drop(p, x.Unit)
	for i, y := range q.Places {
		if y.Unit > x.Unit {
			q.Places = slices.Concat(q.Places[:i:i], []place{x}, q.Places[i:])
			return q
		}
	}
	q.Places = append(q.Places, x)
	return q
}

// drop is the model of Drop.
func drop(p api.Plan, unit int) api.Plan {
	q := planOf(p.Frame, p.Cores)
	for _, x := range p.Places {
		if x.Unit != unit {
			q.Places = append(q.Places, x)
		}
	}
	return q
}

// manyCores are all that a plan may have, and numbers that none is.
func manyCores() []int {
	l := slices.Clone(farNumbers)
	for core := -3; core <= 70; core++ {
		l = append(l, core)
	}
	return l
}

// checkReads holds P16.2 and P16.3 for a right plan.
func checkReads(t *testing.T, p api.Plan) {
	t.Helper()
	cores, _ := coresOf(p)
	if got := plan.Cores(p); !slices.Equal(got, cores) {
		t.Errorf("Cores(%v): %v; want %v", p, got, cores)
	}
	var wants []want
	splits, free := 0, 0
	for _, x := range p.Places {
		wants = append(wants, want{Unit: x.Unit, Share: x.Share})
		splits += min(1, len(x.Pieces))
	}
	for _, core := range cores {
		_, sum := taken(p, core)
		free += p.Frame - sum
	}
	if got := plan.Wants(p); !slices.Equal(got, wants) {
		t.Errorf("Wants(%v): %v; want %v", p, got, wants)
	}
	if plan.Splits(p) != splits || plan.Free(p) != free {
		t.Errorf("%v: Splits %d, Free %d; want %d, %d", p, plan.Splits(p), plan.Free(p), splits, free)
	}
	for core := -1; core <= 17; core++ {
		checkCore(t, p, core)
	}
	for _, x := range p.Places {
		for _, unit := range []int{x.Unit - 1, x.Unit, x.Unit + 1, x.Unit + 1000, -x.Unit} {
			checkFind(t, p, unit)
		}
	}
	checkFind(t, p, 0)
}

// checkCore holds P16.3 for a core, which may be any number.
func checkCore(t *testing.T, p api.Plan, core int) {
	t.Helper()
	windows, room := uint64(0), 0
	var wholes []want
	for _, y := range piecesOn(p, core) {
		windows |= y
	}
	for _, x := range p.Places {
		if len(x.Pieces) == 0 && x.Core == core {
			wholes = append(wholes, want{Unit: x.Unit, Share: x.Share})
		}
	}
	if hasCore(p, core) {
		_, sum := taken(p, core)
		room = p.Frame - sum
	}
	if got := plan.Windows(p, core); got != windows {
		t.Errorf("Windows(%v, %d): %b; want %b", p, core, got, windows)
	}
	if got := plan.Wholes(p, core); !slices.Equal(got, wholes) {
		t.Errorf("Wholes(%v, %d): %v; want %v", p, core, got, wholes)
	}
	if got := plan.Room(p, core); got != room {
		t.Errorf("Room(%v, %d): %d; want %d", p, core, got, room)
	}
}

func checkFind(t *testing.T, p api.Plan, unit int) {
	t.Helper()
	x, there := find(p, unit)
	if got, ok := plan.Find(p, unit); ok != there || !samePlace(got, x) {
		t.Errorf("Find(%v, %d): %v, %v; want %v, %v", p, unit, got, ok, x, there)
	}
}

// busy is a plan in which the core 15 is full, the core 3 is not, and the core 7 has nothing; it has no core 0.
func busy() api.Plan {
	return planOf(10, 1<<3|1<<5|1<<7|1<<15,
		whole(2, 3, 3),
		split(5, 6, at(3, 0, 9), row(15, 1, 5)),
		whole(9, 1, 15),
		whole(200, 2, 3),
		split(1001, 4, at(3, 4), at(5, 0, 1), at(15, 5)),
		whole(1004, 10-6, 15),
	)
}

// TestReads holds P16.2 and P16.3 for numbers that a test names.
func TestReads(t *testing.T) {
	p := busy()
	checkIs(t, true, p)
	checkReads(t, p)
	if got := plan.Cores(p); !slices.Equal(got, []int{3, 5, 7, 15}) {
		t.Error(got)
	}
	if got := plan.Wants(p); !slices.Equal(got, []want{{Unit: 2, Share: 3}, {Unit: 5, Share: 6}, {Unit: 9, Share: 1}, {Unit: 200, Share: 2}, {Unit: 1001, Share: 4}, {Unit: 1004, Share: 4}}) {
		t.Error(got)
	}
	for core, k := range map[int]struct {
		windows uint64
		wholes  []want
		room    int
	}{
		3:  {1<<0 | 1<<9 | 1<<4, []want{{Unit: 2, Share: 3}, {Unit: 200, Share: 2}}, 2},
		5:  {3, nil, 8},
		7:  {0, nil, 10},
		15: {0b111110, []want{{Unit: 9, Share: 1}, {Unit: 1004, Share: 4}}, 0},
	} {
		if plan.Windows(p, core) != k.windows || !slices.Equal(plan.Wholes(p, core), k.wholes) || plan.Room(p, core) != k.room {
			t.Error(core, plan.Windows(p, core), plan.Wholes(p, core), plan.Room(p, core))
		}
	}
	if plan.Free(p) != 20 || plan.Splits(p) != 2 {
		t.Error(plan.Free(p), plan.Splits(p))
	}
}

// TestReadsNone holds P16.2 and P16.3 for plans without places, on each number of cores.
func TestReadsNone(t *testing.T) {
	for n := 1; n <= 16; n++ {
		for f := 2; f <= 64; f += 31 {
			p := planOf(f, 1<<n-1)
			checkReads(t, p)
			if plan.Free(p) != f*n || plan.Splits(p) != 0 || len(plan.Wants(p)) != 0 || len(plan.Cores(p)) != n {
				t.Error(f, n, plan.Free(p))
			}
		}
	}
	for core := range 16 {
		p := planOf(64, 1<<core)
		checkReads(t, p)
		if got := plan.Cores(p); !slices.Equal(got, []int{core}) || plan.Room(p, core) != 64 {
			t.Error(core, got)
		}
	}
}

// TestReadsCores holds P16.3 for numbers that are no core of the plan.
func TestReadsCores(t *testing.T) {
	for _, p := range []api.Plan{busy(), planOf(64, 0xffff, whole(1, 64, 0), whole(2, 63, 15)), planOf(2, 1, whole(1, 1, 0)), planOf(2, 1<<15), planOf(3, 6, split(1, 3, at(1, 0), at(2, 1, 2)))} {
		checkIs(t, true, p)
		for _, core := range manyCores() {
			checkCore(t, p, core)
			if !hasCore(p, core) && (plan.Room(p, core) != 0 || plan.Windows(p, core) != 0 || len(plan.Wholes(p, core)) != 0) {
				t.Error(p, core)
			}
		}
	}
}

// TestReadsFull holds P16.3 at the ends: windows and Shares that leave nothing, and those that leave one tick.
func TestReadsFull(t *testing.T) {
	p := planOf(64, 3, split(1, 64, row(0, 0, 32), row(1, 32, 64)), whole(2, 32, 0), whole(3, 31, 1))
	checkReads(t, p)
	if plan.Room(p, 0) != 0 || plan.Room(p, 1) != 1 || plan.Free(p) != 1 || plan.Windows(p, 1) != row(1, 32, 64).Ticks {
		t.Error(plan.Room(p, 0), plan.Room(p, 1), plan.Free(p))
	}
	// All ticks of a core in windows, of three units.
	p = planOf(4, 15, split(1, 3, at(0, 0), at(3, 1, 2)), split(2, 2, at(1, 1), at(3, 0)), split(3, 2, at(2, 2), at(3, 3)), whole(4, 3, 2))
	checkReads(t, p)
	if plan.Room(p, 3) != 0 || plan.Windows(p, 3) != 15 || plan.Splits(p) != 3 || plan.Room(p, 2) != 0 || plan.Free(p) != 6 {
		t.Error(plan.Room(p, 3), plan.Windows(p, 3))
	}
	// A split unit has the Core 0, and is not whole there.
	p = planOf(4, 7, split(1, 2, at(1, 1), at(2, 0)), whole(2, 1, 0))
	checkReads(t, p)
	if got := plan.Wholes(p, 0); !slices.Equal(got, []want{{Unit: 2, Share: 1}}) || plan.Room(p, 0) != 3 {
		t.Error(got, plan.Room(p, 0))
	}
	p = planOf(4, 6, split(1, 2, at(1, 1), at(2, 0)))
	checkReads(t, p)
	if got := plan.Wholes(p, 0); len(got) != 0 || plan.Room(p, 0) != 0 {
		t.Error(got, plan.Room(p, 0))
	}
}

// TestFind holds P16.2's Find of units that are there, of others, and of numbers that are no unit.
func TestFind(t *testing.T) {
	p := busy()
	for _, k := range p.Places {
		if x, ok := plan.Find(p, k.Unit); !ok || !samePlace(x, k) {
			t.Error(k, x, ok)
		}
	}
	for _, unit := range append([]int{0, 1, 3, 4, 6, 8, 10, 15, 199, 201, 300, 1000, 1002, 1003, 1005, 1009, 1040, 1041, 1200, 2001}, farNumbers...) {
		if x, ok := plan.Find(p, unit); ok || !reflect.DeepEqual(x, place{}) {
			t.Error(unit, x, ok)
		}
		if x, ok := plan.Find(planOf(8, 1), unit); ok || !reflect.DeepEqual(x, place{}) {
			t.Error(unit, x, ok)
		}
	}
	var l []place
	for unit := 1; unit <= 200; unit++ {
		l = append(l, whole(unit, 1+unit%2, unit%8))
	}
	for unit := 1001; unit <= 1040; unit++ {
		l = append(l, whole(unit, 1, unit%8))
	}
	many := planOf(64, 255, l...)
	checkReads(t, many)
	for unit := -10; unit <= 1050; unit++ {
		checkFind(t, many, unit)
	}
}

// TestReadsAny holds P16.2 and P16.3 for any right plans.
func TestReadsAny(t *testing.T) {
	rng := rand.New(rand.NewSource(163))
	full, splits := 0, 0
	for range 3000 {
		p := somePlan(rng)
		checkReads(t, p)
		for _, core := range plan.Cores(p) {
			if plan.Room(p, core) == 0 {
				full++
			}
		}
		splits += plan.Splits(p)
	}
	if full < 500 || splits < 500 {
		t.Error(full, splits)
	}
}

// checkPut holds P16.4's Put of a place, which may be any.
func checkPut(t *testing.T, p api.Plan, x place) api.Plan {
	t.Helper()
	got := plan.Put(p, x)
	if m := put(p, x); !samePlan(got, m) {
		t.Errorf("Put(%v, %v): %v; want %v", p, x, got, m)
	}
	return got
}

func checkDrop(t *testing.T, p api.Plan, unit int) api.Plan {
	t.Helper()
	got := plan.Drop(p, unit)
	if m := drop(p, unit); !samePlan(got, m) {
		t.Errorf("Drop(%v, %d): %v; want %v", p, unit, got, m)
	}
	return got
}

// units are those of a plan's places.
func units(p api.Plan) []int {
	var l []int
	for _, x := range p.Places {
		l = append(l, x.Unit)
	}
	return l
}

// TestPut holds P16.4's Put: at the front, in the middle, at the end, and for a unit that is there.
func TestPut(t *testing.T) {
	p := busy()
	for _, k := range []struct {
		x     place
		units []int
	}{
		{whole(1, 1, 3), []int{1, 2, 5, 9, 200, 1001, 1004}},
		{whole(3, 1, 7), []int{2, 3, 5, 9, 200, 1001, 1004}},
		{split(8, 2, at(5, 8), at(7, 0)), []int{2, 5, 8, 9, 200, 1001, 1004}},
		{whole(199, 1, 5), []int{2, 5, 9, 199, 200, 1001, 1004}},
		{whole(1003, 1, 5), []int{2, 5, 9, 200, 1001, 1003, 1004}},
		{whole(1040, 10, 7), []int{2, 5, 9, 200, 1001, 1004, 1040}},
		// Of a unit that is there: whole in place of split, the reverse, and others of the same kind.
		{whole(2, 5, 3), units(p)},
		{whole(2, 3, 5), units(p)},
		{split(2, 3, at(5, 7, 8), at(7, 3)), units(p)},
		{whole(5, 4, 7), units(p)},
		{split(5, 2, at(5, 4), at(7, 5)), units(p)},
		{whole(200, 1, 5), units(p)},
		{whole(1001, 4, 5), units(p)},
		{split(1004, 3, at(3, 5), at(5, 2), at(7, 7)), units(p)},
		{whole(1004, 2, 15), units(p)},
	} {
		q := checkPut(t, p, k.x)
		checkIs(t, true, q)
		if !slices.Equal(units(q), k.units) {
			t.Errorf("%v: %v", k.x, units(q))
		}
		if x, ok := plan.Find(q, k.x.Unit); !ok || !samePlace(x, k.x) {
			t.Errorf("%v: %v, %v", k.x, x, ok)
		}
		checkReads(t, q)
		// Again, it changes nothing.
		if !samePlan(checkPut(t, q, k.x), q) {
			t.Error(k.x)
		}
	}
	if !samePlan(p, busy()) {
		t.Error(p)
	}
}

// TestPutFirst holds P16.4's Put for a plan without places, and for one with one place.
func TestPutFirst(t *testing.T) {
	none := planOf(8, 6)
	for _, x := range []place{whole(7, 3, 1), split(7, 3, at(1, 0, 1), at(2, 2))} {
		one := checkPut(t, none, x)
		if !samePlan(one, planOf(8, 6, x)) {
			t.Error(one)
		}
		for _, unit := range []int{1, 6, 7, 8, 1001} {
			checkPut(t, one, whole(unit, 2, 2))
			checkPut(t, one, split(unit, 2, at(1, 5), at(2, 6)))
		}
	}
}

// TestPutWrong holds P16.4's Put of places that make a plan wrong: they are put as they are.
func TestPutWrong(t *testing.T) {
	for _, p := range []api.Plan{planOf(10, 0xffff), busy(), planOf(10, 8, whole(1040, 2, 3))} {
		for _, x := range []place{
			{}, whole(300, 1, 3), whole(0, 1, 3), whole(-5, 1, 3), whole(math.MinInt, 1, 3), whole(math.MaxInt, 1, 3), whole(1000, 1, 3),
			whole(6, 11, 3), whole(6, 0, 3), whole(6, -1, 3), whole(6, math.MaxInt, math.MinInt), whole(2, math.MinInt, 3), whole(6, 1, 16), whole(6, 1, -1), whole(6, 10, 15),
			{Unit: 5, Share: 2, Core: 5, Pieces: []piece{at(5, 8), at(7, 0)}}, split(6, 1, at(3, 1)), split(6, 2, at(5, 8), at(5, 9)), split(5, 2, at(7, 0), at(5, 8)),
			split(6, 3, at(5, 8), at(7, 0)), split(6, 1, at(5, 8), at(7)), split(6, 2, at(5, 10), at(7, 0)), split(6, 2, at(-5, 3), at(70, 63)), split(9, 2, at(7, 0), at(15, 1)),
		} {
			q := checkPut(t, p, x)
			if e := plan.Check(q); valid(q) != (e == api.OK) {
				t.Error(q, e)
			}
			if got, ok := plan.Find(q, x.Unit); !ok || !samePlace(got, x) {
				t.Error(x, got, ok)
			}
		}
	}
}

// TestDrop holds P16.4's Drop of units that are there, of others, and of the only one.
func TestDrop(t *testing.T) {
	p := busy()
	for i, unit := range units(p) {
		q := checkDrop(t, p, unit)
		if len(q.Places) != 5 || !slices.Equal(units(q), slices.Delete(units(p), i, i+1)) {
			t.Error(unit, units(q))
		}
		if _, ok := plan.Find(q, unit); ok {
			t.Error(unit)
		}
		checkReads(t, q)
		if !samePlan(checkDrop(t, q, unit), q) {
			t.Error(unit)
		}
	}
	for _, unit := range append([]int{0, 1, 3, 6, 15, 201, 300, 1000, 1002, 1005, 1040, 2001}, farNumbers...) {
		if q := checkDrop(t, p, unit); !samePlan(q, busy()) {
			t.Error(unit, q)
		}
		if q := checkDrop(t, planOf(8, 5), unit); !samePlan(q, planOf(8, 5)) {
			t.Error(unit, q)
		}
	}
	for _, x := range []place{whole(7, 3, 1), split(7, 3, at(1, 0, 1), at(2, 2))} {
		if q := checkDrop(t, planOf(8, 6, x), 7); !samePlan(q, planOf(8, 6)) {
			t.Error(q)
		}
	}
	// All of them, one by one.
	for _, unit := range []int{9, 1004, 2, 1001, 200, 5} {
		p = checkDrop(t, p, unit)
	}
	if !samePlan(p, planOf(10, 1<<3|1<<5|1<<7|1<<15)) {
		t.Error(p)
	}
}

// TestChangesAny holds P16.4 for any right plans, and that the chapter's two properties hold of them.
func TestChangesAny(t *testing.T) {
	rng := rand.New(rand.NewSource(164))
	for range 1500 {
		p := somePlan(rng)
		balance(t, p)
		for _, unit := range append(units(p), 1+rng.Intn(200), 1001+rng.Intn(40), rng.Intn(3000)-1000) {
			balance(t, checkDrop(t, p, unit))
		}
		for range 4 {
			unit := []int{1 + rng.Intn(200), 1001 + rng.Intn(40)}[rng.Intn(2)]
			if len(p.Places) > 0 && rng.Intn(2) == 0 {
				unit = units(p)[rng.Intn(len(p.Places))]
			}
			x := somePlace(rng, drop(p, unit), unit)
			if q := checkPut(t, p, x); x.Unit > 0 {
				balance(t, q)
			}
		}
		roundTrip(t, rng, p)
	}
}

// balance holds P16.5: Free and the Shares of all places are the frame times the number of cores.
func balance(t *testing.T, p api.Plan) {
	t.Helper()
	checkIs(t, true, p)
	sum := plan.Free(p)
	for _, w := range plan.Wants(p) {
		sum += w.Share
	}
	if sum != p.Frame*len(plan.Cores(p)) {
		t.Errorf("%v: %d", p, sum)
	}
	rooms := 0
	for core := range 16 {
		rooms += plan.Room(p, core)
	}
	if rooms != plan.Free(p) {
		t.Errorf("%v: %d and %d", p, rooms, plan.Free(p))
	}
}

// roundTrip holds P16.6: a place that is put and whose unit is dropped again leaves the plan as it was, and so does one that is dropped and put again; a right plan without one of its places is right.
func roundTrip(t *testing.T, rng *rand.Rand, p api.Plan) {
	t.Helper()
	for range 3 {
		unit := 1 + rng.Intn(200)
		if _, there := find(p, unit); there {
			continue
		}
		x := somePlace(rng, p, unit)
		x.Unit = unit
		if q := plan.Drop(plan.Put(p, x), unit); !samePlan(q, p) || !plan.Same(q, p) {
			t.Errorf("%v and %v: %v", p, x, q)
		}
	}
	for _, x := range p.Places {
		less := plan.Drop(p, x.Unit)
		checkIs(t, true, less)
		if q := plan.Put(less, x); !plan.Same(q, p) || plan.Same(less, p) {
			t.Errorf("%v without %v: %v", p, x, q)
		}
	}
}

// withSpare is a plan behind whose lists there are others in the same memory.
func withSpare(p api.Plan) api.Plan {
	p = deep(p)
	for i, x := range p.Places {
		p.Places[i].Pieces = append(x.Pieces, at(9, 60), at(10, 61), at(11, 62))[:len(x.Pieces)]
	}
	p.Places = append(p.Places, whole(70, 7, 7), split(80, 8, at(8, 8), at(9, 9)), whole(90, 9, 9))[:len(p.Places)]
	return p
}

// all is a plan's lists with what lies behind them, in memory of its own.
func all(p api.Plan) api.Plan {
	p.Places = slices.Clone(p.Places[:cap(p.Places)])
	for i, x := range p.Places {
		p.Places[i].Pieces = slices.Clone(x.Pieces[:cap(x.Pieces)])
	}
	return p
}

// ruin changes each place and each piece of a plan, and what lies behind them.
func ruin(p api.Plan) {
	places := p.Places[:cap(p.Places)]
	for i, x := range places {
		pieces := x.Pieces[:cap(x.Pieces)]
		for j := range pieces {
			pieces[j] = piece{Core: -77, Ticks: 0x7777}
		}
		places[i] = place{Unit: -7, Share: -77, Core: -777, Pieces: []piece{{Core: 7}}}
	}
}

// changes are the calls that answer a plan, or a place, as plans.
func changes() map[string]func(p api.Plan, x place) api.Plan {
	m := map[string]func(p api.Plan, x place) api.Plan{
		"Put":      plan.Put,
		"Put of 5": func(p api.Plan, x place) api.Plan { x.Unit = 5; return plan.Put(p, x) },
		"Put last": func(p api.Plan, x place) api.Plan { x.Unit = 1040; return plan.Put(p, x) },
	}
	for name, unit := range map[string]int{"2": 2, "5": 5, "1004": 1004, "none": 3} {
		m["Drop of "+name] = func(p api.Plan, x place) api.Plan { return plan.Drop(p, unit) }
		m["Find of "+name] = func(p api.Plan, x place) api.Plan {
			y, _ := plan.Find(p, unit)
			return planOf(2, 1, y)
		}
	}
	return m
}

// TestChangesMemory holds that no plan that a call answers shares memory with an argument or with another answer, and that no argument changes.
func TestChangesMemory(t *testing.T) {
	x := withSpare(planOf(2, 1, split(8, 3, at(5, 8, 9), at(7, 0)))).Places[0]
	for name, call := range changes() {
		for _, p := range []api.Plan{withSpare(busy()), deep(busy()), withSpare(planOf(10, 0xffff)), planOf(10, 0xffff, whole(2, 2, 2)), planOf(10, 0xffff)} {
			for _, x := range []place{x, whole(8, 1, 7), {Unit: 8, Share: 1, Core: 7, Pieces: []piece{}}} {
				x := withSpare(planOf(2, 1, x)).Places[0]
				argument := planOf(2, 1, x)
				p := deepSpare(p)
				wasP, wasX := all(p), all(argument)
				first, second := call(p, x), call(p, x)
				kept := deep(second)
				ruin(first)
				if !reflect.DeepEqual(all(p), wasP) || !reflect.DeepEqual(all(argument), wasX) {
					t.Errorf("%s: an argument is %v and %v", name, all(p), all(argument))
				}
				if !samePlan(second, kept) || !samePlan(call(p, x), kept) {
					t.Errorf("%s: two answers share memory", name)
				}
				ruin(p)
				ruin(argument)
				if !samePlan(second, kept) {
					t.Errorf("%s: the answer is %v once an argument changes; it was %v", name, second, kept)
				}
			}
		}
	}
}

// deepSpare is a plan with memory of its own, and the same behind its lists.
func deepSpare(p api.Plan) api.Plan {
	q := all(p)
	for i, x := range q.Places {
		if i < len(p.Places) {
			q.Places[i].Pieces = x.Pieces[:len(p.Places[i].Pieces)]
		}
	}
	q.Places = q.Places[:len(p.Places)]
	return q
}

// TestAnswersApart holds that no two lists of one answer share memory: to append to one changes no other.
func TestAnswersApart(t *testing.T) {
	for name, call := range changes() {
		q := call(withSpare(busy()), split(8, 3, at(5, 8, 9), at(7, 0)))
		kept := deep(q)
		for i := range q.Places {
			_ = append(q.Places[i].Pieces, at(1, 1), at(2, 2), at(3, 3), at(4, 4))
			if !samePlan(q, kept) {
				t.Fatalf("%s: %v; it was %v", name, q, kept)
			}
		}
		_ = append(q.Places, whole(1, 1, 1))
		if !samePlan(q, kept) {
			t.Errorf("%s: %v; it was %v", name, q, kept)
		}
	}
}

// checkList holds that a list that a call answers is memory of its own, and that the argument stays.
func checkList[T comparable](t *testing.T, name string, call func(p api.Plan) []T, other T) {
	t.Helper()
	p := withSpare(busy())
	was := all(p)
	first, second := call(p), call(p)
	kept := slices.Clone(second)
	if len(kept) == 0 {
		t.Errorf("%s: nothing", name)
	}
	for i := range first[:cap(first)] {
		first[:cap(first)][i] = other
	}
	if !slices.Equal(second, kept) || !slices.Equal(call(p), kept) || !reflect.DeepEqual(all(p), was) {
		t.Errorf("%s: %v; it was %v", name, second, kept)
	}
	ruin(p)
	if !slices.Equal(second, kept) {
		t.Errorf("%s: %v once the plan changes; it was %v", name, second, kept)
	}
}

// TestListsMemory holds the same for the lists of numbers and of wants.
func TestListsMemory(t *testing.T) {
	checkList(t, "Cores", plan.Cores, -7)
	checkList(t, "Wants", plan.Wants, want{Unit: -7, Share: 77})
	for _, core := range []int{3, 15} {
		checkList(t, "Wholes", func(p api.Plan) []want { return plan.Wholes(p, core) }, want{Unit: -7, Share: 77})
	}
}

// TestReadsMemory holds that calls that answer no list change no argument either.
func TestReadsMemory(t *testing.T) {
	rng := rand.New(rand.NewSource(165))
	for range 300 {
		p := withSpare(somePlan(rng))
		if rng.Intn(3) == 0 {
			spoil(rng, &p)
		}
		q := deepSpare(p)
		was := all(p)
		callAll(p, q)
		if !reflect.DeepEqual(all(p), was) || !reflect.DeepEqual(all(q), was) {
			t.Fatalf("%v; it was %v", all(p), was)
		}
	}
}

// callAll calls whatever there is.
func callAll(p, q api.Plan) {
	plan.Check(p)
	plan.Cores(p)
	plan.Free(p)
	plan.Splits(p)
	plan.Wants(p)
	plan.Same(p, q)
	for _, core := range []int{math.MinInt, -1, 0, 3, 15, 16, 17, 31, 32, 63, 64, math.MaxInt} {
		plan.Windows(p, core)
		plan.Wholes(p, core)
		plan.Room(p, core)
	}
	for _, x := range q.Places {
		plan.Find(p, x.Unit)
		plan.Put(p, x)
		plan.Drop(p, x.Unit)
		plan.SamePlace(x, q.Places[0])
	}
	plan.Find(p, -1)
	plan.Put(p, place{})
	plan.Drop(p, math.MaxInt)
}

// TestAnyPlan holds that no call panics, whatever it is given, and that Check finds each wrong plan.
func TestAnyPlan(t *testing.T) {
	rng := rand.New(rand.NewSource(166))
	number := func() int {
		if rng.Intn(3) == 0 {
			return farNumbers[rng.Intn(len(farNumbers))]
		}
		return rng.Intn(70) - 2
	}
	for range 3000 {
		p := planOf(number(), rng.Uint32()>>rng.Intn(32))
		for range rng.Intn(5) {
			x := place{Unit: number(), Share: number(), Core: number()}
			for range rng.Intn(4) {
				x.Pieces = append(x.Pieces, piece{Core: number(), Ticks: rng.Uint64() >> rng.Intn(65)})
			}
			p.Places = append(p.Places, x)
		}
		checkModel(t, p)
		callAll(p, deep(p))
		checkModel(t, p)
	}
}
