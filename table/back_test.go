package table_test

import (
	"math"
	"math/rand"
	"reflect"
	"slices"
	"testing"

	"dogwatch/api"
	"dogwatch/plan"
	"dogwatch/table"
)

// isUnit tells whether a number is that of a task, or that of a group and 1000.
func isUnit(n int) bool { return n >= 1 && n <= 200 || n >= 1001 && n <= 1040 }

// areTables is the model of whom Back accepts: the terms of chapter 16, told of tables.
func areTables(f int, l []table.Table) bool {
	if f < 2 || f > 64 || len(l) == 0 {
		return false
	}
	for i, x := range l {
		if x.Core < 0 || x.Core > 15 || i > 0 && x.Core <= l[i-1].Core || len(x.Ticks) != f || !areWants(f, x) {
			return false
		}
	}
	splits := 0
	for _, unit := range unitsOf(l) {
		wholes, cores, apart := whereIs(l, unit)
		if !isUnit(unit) || !apart || wholes > 1 || wholes == 1 && cores > 0 || wholes == 0 && cores < 2 {
			return false
		}
		splits += min(1, cores)
	}
	return splits < len(l)
}

// areWants tells whether the units that are whole on a core may be there.
func areWants(f int, x table.Table) bool {
	left := f
	for _, unit := range x.Ticks {
		if unit != 0 {
			left--
		}
	}
	for i, w := range x.Wholes {
		if w.Share < 1 || w.Share > left || i > 0 && w.Unit <= x.Wholes[i-1].Unit {
			return false
		}
		left -= w.Share
	}
	return true
}

// unitsOf are the numbers that tables name, rising.
func unitsOf(l []table.Table) []int {
	var units []int
	for _, x := range l {
		for _, unit := range x.Ticks {
			if unit != 0 {
				units = append(units, unit)
			}
		}
		for _, w := range x.Wholes {
			units = append(units, w.Unit)
		}
	}
	slices.Sort(units)
	return slices.Compact(units)
}

// whereIs tells of a unit how often it is whole, on how many cores it has windows, and whether it has none at one tick on two cores.
func whereIs(l []table.Table, unit int) (wholes, cores int, apart bool) {
	seen := map[int]int{}
	apart = true
	for _, x := range l {
		if slices.Contains(x.Ticks, unit) {
			cores++
		}
		for tick, other := range x.Ticks {
			if other == unit {
				seen[tick]++
				apart = apart && seen[tick] < 2
			}
		}
		for _, w := range x.Wholes {
			if w.Unit == unit {
				wholes++
			}
		}
	}
	return wholes, cores, apart
}

// planFrom is the plan of tables that areTables accepts: unit by unit, core by core, tick by tick.
func planFrom(f int, l []table.Table) api.Plan {
	p := planOf(f, 0)
	for _, x := range l {
		p.Cores += 1 << x.Core
	}
	for _, unit := range unitsOf(l) {
		y := place{Unit: unit}
		for _, x := range l {
			for _, w := range x.Wholes {
				if w.Unit == unit {
					y.Share, y.Core = w.Share, x.Core
				}
			}
			own := piece{Core: x.Core}
			for tick, other := range x.Ticks {
				if other == unit {
					own.Ticks += 1 << tick
					y.Share++
				}
			}
			if own.Ticks != 0 {
				y.Pieces = append(y.Pieces, own)
			}
		}
		p.Places = append(p.Places, y)
	}
	return p
}

// checkBack holds P17.2 for any tables, and that what Back accepts are the tables of its plan.
func checkBack(t *testing.T, f int, l []table.Table) bool {
	t.Helper()
	p, e := table.Back(f, l...)
	if !areTables(f, l) {
		if e != api.ErrPlan || !samePlan(p, api.Plan{}) {
			t.Errorf("Back(%d, %v): %v, %d; want nothing, %d", f, l, p, e, api.ErrPlan)
		}
		return false
	}
	if e != api.OK || !samePlan(p, planFrom(f, l)) {
		t.Errorf("Back(%d, %v): %v, %d; want %v", f, l, p, e, planFrom(f, l))
	}
	if own, e := table.Of(p); e != api.OK || plan.Check(p) != api.OK || !sameTables(own, l) {
		t.Errorf("Back(%d, %v): %v, whose tables are %v", f, l, p, own)
	}
	return true
}

// accepts holds Back of tables, and the model too, against what a test names.
func accepts(t *testing.T, right bool, f int, l ...table.Table) {
	t.Helper()
	if checkBack(t, f, l) != right {
		t.Errorf("the model of %d, %v: %v", f, l, !right)
	}
}

// base are right tables of six ticks: the core 1 is full, and the core 4 has room for one tick more.
func base() []table.Table {
	return []table.Table{
		tab(1, []int{2, 2, 0, 1001, 0, 0}, wantOf(1, 1), wantOf(3, 2)),
		tab(4, []int{0, 0, 2, 0, 1001, 0}, wantOf(7, 3)),
		tab(9, []int{1001, 0, 0, 0, 0, 0}),
	}
}

// changed holds that the base is right, and what it is once something was changed.
func changed(t *testing.T, right bool, change func(l []table.Table)) {
	t.Helper()
	accepts(t, true, 6, base()...)
	l := base()
	change(l)
	accepts(t, right, 6, l...)
}

// TestBack holds P17.2 for plans that a test names.
func TestBack(t *testing.T) {
	for _, k := range []struct {
		p api.Plan
		l []table.Table
	}{
		{busy(), busyTables()},
		{planOf(6, 1<<1|1<<4|1<<9, whole(1, 1, 1), split(2, 3, at(1, 0, 1), at(4, 2)), whole(3, 2, 1), whole(7, 3, 4), split(1001, 3, at(1, 3), at(4, 4), at(9, 0))), base()},
		{planOf(2, 1), []table.Table{tab(0, []int{0, 0})}},
		{planOf(2, 1<<15, whole(200, 2, 15)), []table.Table{tab(15, []int{0, 0}, wantOf(200, 2))}},
		{planOf(64, 1<<15), []table.Table{tab(15, make([]int, 64))}},
		{planOf(2, 3, split(1040, 2, at(0, 1), at(1, 0))), []table.Table{tab(0, []int{0, 1040}), tab(1, []int{1040, 0})}},
		{planOf(3, 7, split(1, 3, at(0, 0, 1), at(1, 2)), split(2, 2, at(0, 2), at(1, 0)), whole(3, 1, 1), whole(4, 3, 2)),
			[]table.Table{tab(0, []int{1, 1, 2}), tab(1, []int{2, 0, 1}, wantOf(3, 1)), tab(2, []int{0, 0, 0}, wantOf(4, 3))}},
		// Whole ones and split ones in the order of their units, whichever core comes first.
		{planOf(4, 3, whole(4, 1, 1), split(5, 2, at(0, 0), at(1, 1)), whole(6, 1, 0), whole(1002, 2, 1)),
			[]table.Table{tab(0, []int{5, 0, 0, 0}, wantOf(6, 1)), tab(1, []int{0, 5, 0, 0}, wantOf(4, 1), wantOf(1002, 2))}},
	} {
		accepts(t, true, k.p.Frame, k.l...)
		if p, e := table.Back(k.p.Frame, k.l...); e != api.OK || !samePlan(p, k.p) {
			t.Errorf("Back(%d, %v): %v, %d; want %v", k.p.Frame, k.l, p, e, k.p)
		}
	}
}

// TestBackNone holds P17.2 for no tables: no plan is without cores.
func TestBackNone(t *testing.T) {
	for _, f := range append([]int{0, 1, 2, 3, 64, 65}, farNumbers...) {
		accepts(t, false, f)
		accepts(t, false, f, []table.Table{}...)
	}
}

// TestBackCores holds P17.2 for the cores of tables.
func TestBackCores(t *testing.T) {
	for core := -20; core <= 70; core++ {
		accepts(t, core >= 0 && core <= 15, 2, tab(core, []int{0, 0}))
		accepts(t, core >= 0 && core <= 15, 2, tab(core, []int{0, 0}, wantOf(1, 2)))
		accepts(t, core > 3 && core <= 15, 2, tab(3, []int{0, 0}), tab(core, []int{0, 0}))
		accepts(t, core >= 0 && core < 3, 2, tab(core, []int{0, 0}), tab(3, []int{0, 0}))
		accepts(t, core > 3 && core <= 15, 2, tab(3, []int{7, 0}), tab(core, []int{0, 7}))
		accepts(t, core > 3 && core < 8, 2, tab(3, []int{7, 0}), tab(core, []int{0, 0}), tab(8, []int{0, 7}))
		changed(t, core == 9 || core > 4 && core <= 15, func(l []table.Table) { l[2].Core = core })
		changed(t, core > 1 && core < 9, func(l []table.Table) { l[1].Core = core })
	}
	for _, core := range farNumbers {
		accepts(t, false, 2, tab(core, []int{0, 0}))
		accepts(t, false, 2, tab(core, []int{0, 0}, wantOf(1, 2)))
		accepts(t, false, 2, tab(3, []int{0, 0}), tab(core, []int{0, 0}))
		accepts(t, false, 2, tab(core, []int{0, 0}), tab(3, []int{0, 0}))
		changed(t, false, func(l []table.Table) { l[2].Core = core })
		changed(t, false, func(l []table.Table) { l[0].Core = core })
	}
	// Out of order, and the same one twice, with nothing on it and with something.
	changed(t, false, func(l []table.Table) { l[0], l[1] = l[1], l[0] })
	changed(t, false, func(l []table.Table) { l[1], l[2] = l[2], l[1] })
	changed(t, false, func(l []table.Table) { slices.Reverse(l) })
	accepts(t, false, 6, append(base(), base()[2])...)
	accepts(t, false, 6, append(base(), tab(9, make([]int, 6)))...)
	accepts(t, false, 6, append(base(), tab(5, make([]int, 6)))...)
	accepts(t, true, 6, append(base(), tab(10, make([]int, 6)))...)
	accepts(t, false, 6, append(base(), base()...)...)
	accepts(t, false, 2, tab(4, []int{0, 0}), tab(4, []int{0, 0}))
	accepts(t, false, 2, tab(4, []int{7, 0}), tab(4, []int{0, 7}), tab(5, []int{0, 0}))
	accepts(t, false, 2, slices.Repeat([]table.Table{tab(4, []int{0, 0})}, 3000)...)
}

// TestBackTicks holds P17.2 for how many ticks a table has.
func TestBackTicks(t *testing.T) {
	for i := range base() {
		changed(t, false, func(l []table.Table) { l[i].Ticks = l[i].Ticks[:5] })
		changed(t, false, func(l []table.Table) { l[i].Ticks = append(l[i].Ticks, 0) })
		changed(t, false, func(l []table.Table) { l[i].Ticks = append(l[i].Ticks, 2) })
		changed(t, false, func(l []table.Table) { l[i].Ticks = append(l[i].Ticks, make([]int, 64)...) })
		changed(t, false, func(l []table.Table) { l[i].Ticks = nil })
		changed(t, false, func(l []table.Table) { l[i].Ticks = []int{} })
	}
	for n := range 140 {
		accepts(t, n == 3, 3, tab(0, make([]int, n)))
		accepts(t, n == 64, 64, tab(0, make([]int, n)))
		accepts(t, n == 64, 64, tab(0, make([]int, 64)), tab(1, make([]int, n)))
	}
	// A window that begins behind the frame, or behind all ticks that a set can have.
	for _, n := range []int{2, 3, 62, 63, 64, 65, 127, 128, 129} {
		long := make([]int, n+1)
		long[n] = 7
		accepts(t, false, 2, tab(0, long), tab(1, []int{7, 0}))
		accepts(t, n == 63, 64, tab(0, long), tab(1, append([]int{7}, make([]int, 63)...)))
	}
	accepts(t, false, 64, tab(0, slices.Repeat([]int{7}, 100000)), tab(1, make([]int, 64)))
}

// TestBackOwners holds P17.2 for the numbers that ticks belong to, and where their windows are.
func TestBackOwners(t *testing.T) {
	for unit := -5; unit <= 2100; unit++ {
		accepts(t, isUnit(unit) || unit == 0, 3, tab(0, []int{unit, 0, 0}), tab(1, []int{0, unit, 0}))
		// 0 is nobody, and 2 and 1001 have windows elsewhere, at other ticks.
		changed(t, unit == 0 || unit == 2 || unit == 1001, func(l []table.Table) { l[2].Ticks[5] = unit })
	}
	for _, unit := range append([]int{201, 300, 1000, 1041}, farNumbers...) {
		accepts(t, false, 3, tab(0, []int{unit, 0, 0}), tab(1, []int{0, unit, 0}))
		accepts(t, false, 3, tab(0, []int{unit, 0, 0}), tab(1, []int{0, 0, 0}))
		for i := range base() {
			changed(t, false, func(l []table.Table) { l[i].Ticks[5] = unit })
		}
	}
	// Windows on one core only: one tick, several, and all of them.
	for core := range 3 {
		changed(t, false, func(l []table.Table) { l[core].Ticks[5] = 8 })
		for n := 1; n <= 4; n++ {
			l := []table.Table{tab(0, make([]int, 4)), tab(1, make([]int, 4)), tab(2, make([]int, 4))}
			for tick := range n {
				l[core].Ticks[tick] = 8
			}
			accepts(t, false, 4, l...)
			l[(core+1)%3].Ticks[3] = 8
			accepts(t, n < 4, 4, l...)
		}
	}
	changed(t, false, func(l []table.Table) { l[1].Ticks[2] = 0 })
	accepts(t, false, 2, tab(0, []int{8, 8}))
	// The same tick on two cores, besides others or alone.
	changed(t, false, func(l []table.Table) { l[1].Ticks[1] = 2 })
	changed(t, false, func(l []table.Table) { l[2].Ticks[3] = 1001 })
	changed(t, false, func(l []table.Table) { l[2].Ticks[4] = 1001 })
	changed(t, true, func(l []table.Table) { l[2].Ticks[5] = 1001 })
	changed(t, true, func(l []table.Table) { l[2].Ticks[5] = 2 })
	accepts(t, false, 2, tab(0, []int{8, 0}), tab(1, []int{8, 0}))
	accepts(t, false, 2, tab(0, []int{8, 8}), tab(1, []int{8, 8}))
	accepts(t, true, 2, tab(0, []int{8, 0}), tab(1, []int{0, 8}))
}

// TestBackPlaces holds P17.2 for units that are in more places than one.
func TestBackPlaces(t *testing.T) {
	room := func(l []table.Table) { l[0].Wholes, l[1].Wholes[0].Share = l[0].Wholes[:1], 1 }
	changed(t, true, room)
	for i := range base() {
		// Split, and whole on the same or another core; 8 is neither yet.
		for _, unit := range []int{2, 8, 1001, 1002} {
			changed(t, unit == 8 || unit == 1002, func(l []table.Table) {
				room(l)
				l[i].Wholes = append(l[i].Wholes, wantOf(unit, 1))
				slices.SortFunc(l[i].Wholes, func(a, b want) int { return a.Unit - b.Unit })
			})
		}
	}
	// Whole on two cores, and twice on one, with the same Share and with another.
	for share := 1; share <= 2; share++ {
		changed(t, false, func(l []table.Table) { l[2].Wholes = []want{wantOf(1, share)} })
		changed(t, true, func(l []table.Table) { l[2].Wholes = []want{wantOf(4, share)} })
		changed(t, false, func(l []table.Table) { l[2].Wholes = []want{wantOf(4, 1), wantOf(4, share)} })
		changed(t, true, func(l []table.Table) { l[2].Wholes = []want{wantOf(4, 1), wantOf(5, share)} })
		changed(t, false, func(l []table.Table) { l[2].Wholes = []want{wantOf(7, share)} })
	}
	// A unit that has one window, where it is whole too.
	accepts(t, false, 4, tab(0, []int{8, 0, 0, 0}, wantOf(8, 1)), tab(1, make([]int, 4)))
	accepts(t, false, 4, tab(0, []int{8, 0, 0, 0}), tab(1, make([]int, 4), wantOf(8, 1)))
	accepts(t, false, 4, tab(0, []int{8, 0, 0, 0}, wantOf(8, 2)), tab(1, []int{0, 8, 0, 0}))
}

// TestBackWants holds P17.2 for the wants of tables.
func TestBackWants(t *testing.T) {
	changed(t, false, func(l []table.Table) { slices.Reverse(l[0].Wholes) })
	changed(t, false, func(l []table.Table) { l[2].Wholes = []want{wantOf(1001, 1)} })
	changed(t, false, func(l []table.Table) { l[2].Wholes = []want{wantOf(1002, 1), wantOf(200, 1)} })
	changed(t, true, func(l []table.Table) { l[2].Wholes = []want{wantOf(200, 1), wantOf(1002, 1)} })
	changed(t, false, func(l []table.Table) { l[2].Wholes = []want{wantOf(10, 1), wantOf(12, 1), wantOf(11, 1)} })
	changed(t, true, func(l []table.Table) { l[2].Wholes = []want{wantOf(10, 1), wantOf(11, 1), wantOf(12, 1)} })
	for unit := -5; unit <= 2100; unit++ {
		accepts(t, isUnit(unit), 3, tab(5, []int{0, 0, 0}, wantOf(unit, 2)))
	}
	for _, n := range farNumbers {
		accepts(t, false, 3, tab(5, []int{0, 0, 0}, wantOf(n, 2)))
		accepts(t, false, 3, tab(5, []int{0, 0, 0}, wantOf(2, n)))
		accepts(t, false, 3, tab(5, []int{0, 0, 0}, wantOf(2, n), wantOf(3, -n), wantOf(4, 1)))
		changed(t, false, func(l []table.Table) { l[1].Wholes[0].Unit = n })
		changed(t, false, func(l []table.Table) { l[1].Wholes[0].Share = n })
	}
	for f := 2; f <= 64; f++ {
		for share := -1; share <= 66; share++ {
			accepts(t, share >= 1 && share <= f, f, tab(15, make([]int, f), wantOf(7, share)))
			// Another one that is whole, or a window, takes one tick.
			accepts(t, share >= 1 && share < f, f, tab(0, make([]int, f), wantOf(6, 1), wantOf(7, share)))
			window := make([]int, f)
			window[f-1] = 1001
			other := make([]int, f)
			other[0] = 1001
			accepts(t, share >= 1 && share < f, f, tab(0, window, wantOf(7, share)), tab(1, other))
			accepts(t, share >= 1 && share < f, f, tab(0, window), tab(1, other, wantOf(7, share)))
		}
	}
	for share := -1; share <= 8; share++ {
		changed(t, share == 1 || share == 2, func(l []table.Table) { l[0].Wholes[1].Share = share })
		changed(t, share >= 1 && share <= 4, func(l []table.Table) { l[1].Wholes[0].Share = share })
		changed(t, share >= 1 && share <= 5, func(l []table.Table) { l[2].Wholes = []want{wantOf(4, share)} })
	}
	// A core that is all windows has nobody whole.
	full := []table.Table{tab(0, []int{1, 1, 2}), tab(1, []int{2, 0, 1}), tab(2, []int{0, 0, 0})}
	accepts(t, true, 3, full...)
	full[0].Wholes = []want{wantOf(3, 1)}
	accepts(t, false, 3, full...)
}

// TestBackSplits holds P17.2 for the number of split units: fewer than cores.
func TestBackSplits(t *testing.T) {
	for n := 1; n <= 16; n++ {
		for splits := range n + 2 {
			l := make([]table.Table, n)
			for i := range l {
				l[i] = tab(16-n+i, make([]int, 64))
			}
			for i := range splits {
				l[0].Ticks[2*i], l[n-1].Ticks[2*i+1] = 30+i, 30+i
			}
			accepts(t, splits < n, 64, l...)
			// Whole ones do not count.
			l[0].Wholes = []want{wantOf(1, 1), wantOf(2, 1), wantOf(1001, 1)}
			accepts(t, splits < n, 64, l...)
		}
	}
}

// TestBackFrames holds P17.2 for the frame.
func TestBackFrames(t *testing.T) {
	for f := -2; f <= 130; f++ {
		accepts(t, f == 6, f, base()...)
		ticks := make([]int, max(f, 0))
		accepts(t, f >= 2 && f <= 64, f, tab(0, ticks))
		accepts(t, f >= 2 && f <= 64, f, tab(3, ticks, wantOf(9, 1)), tab(15, slices.Clone(ticks)))
		accepts(t, f == 2, f, tab(0, []int{0, 0}))
		accepts(t, f == 64, f, tab(0, make([]int, 64)))
		accepts(t, false, f, tab(0, nil))
		accepts(t, false, f, tab(0, nil, wantOf(1, 1)))
	}
	for _, f := range farNumbers {
		accepts(t, false, f, base()...)
		accepts(t, false, f, tab(0, nil))
		accepts(t, false, f, tab(0, []int{0, 0}))
		accepts(t, false, f)
	}
	// Tables that differ in their frames.
	accepts(t, false, 2, tab(0, []int{0, 0}), tab(1, []int{0, 0, 0}))
	accepts(t, false, 3, tab(0, []int{0, 0}), tab(1, []int{0, 0, 0}))
}

// TestBackFew holds P17.2 for all tables of two or three cores with few ticks, units and wants.
func TestBackFew(t *testing.T) {
	wants := [][]want{nil, {wantOf(1, 1)}, {wantOf(2, 1)}, {wantOf(3, 2)}, {wantOf(1, 1), wantOf(2, 1)}, {wantOf(2, 1), wantOf(1, 1)}, {wantOf(1, 1), wantOf(1, 1)}, {wantOf(2, 0)}, {wantOf(2, 3)}}
	var few []table.Table
	for a := range 3 {
		for b := range 3 {
			for _, l := range wants {
				few = append(few, tab(0, []int{a, b}, l...))
			}
		}
	}
	right := 0
	for _, a := range few {
		for _, b := range few {
			b.Core = 1
			if checkBack(t, 2, []table.Table{a, b}) {
				right++
			}
		}
	}
	var three [][]int
	for n := range 27 {
		three = append(three, []int{n % 3, n / 3 % 3, n / 9})
	}
	for _, a := range three {
		for _, b := range three {
			for _, c := range three {
				if checkBack(t, 3, []table.Table{tab(2, a), tab(5, b, wantOf(4, 1)), tab(6, c)}) {
					right++
				}
			}
		}
	}
	if right < 300 {
		t.Error(right)
	}
}

// TestRoundTrip holds P17.4 and P17.5 for any right plans: each is recovered from its tables.
func TestRoundTrip(t *testing.T) {
	rng := rand.New(rand.NewSource(174))
	for range 3000 {
		p := somePlan(rng)
		l, e := table.Of(p)
		if q, f := table.Back(p.Frame, l...); e != api.OK || f != api.OK || !samePlan(q, p) || !plan.Same(q, p) {
			t.Fatalf("%v: %v, %d; %v, %d", p, l, e, q, f)
		}
		accepts(t, true, p.Frame, l...)
		exclusion(t, p, l)
	}
}

// exclusion holds P17.5 by the tables of a plan.
func exclusion(t *testing.T, p api.Plan, l []table.Table) {
	t.Helper()
	ticks := map[int]int{}
	for tick := range p.Frame {
		units := table.Busy(l, tick)
		slices.Sort(units)
		if len(slices.Compact(slices.Clone(units))) != len(units) {
			t.Errorf("%v: at %d are %v", l, tick, units)
		}
		for _, unit := range units {
			ticks[unit]++
		}
	}
	for _, x := range p.Places {
		if len(x.Pieces) > 0 && ticks[x.Unit] != x.Share || len(x.Pieces) == 0 && ticks[x.Unit] != 0 {
			t.Errorf("%v: %v has %d ticks", l, x, ticks[x.Unit])
		}
	}
	for _, x := range l {
		sum := 0
		for _, w := range x.Wholes {
			sum += w.Share
		}
		if table.Loose(x) < sum || table.Loose(x)-sum != plan.Room(p, x.Core) {
			t.Errorf("%v: %d of %d", x, sum, table.Loose(x))
		}
	}
}

// spoil changes something of tables, which may stay right ones.
func spoil(rng *rand.Rand, l []table.Table) []table.Table {
	i, j := rng.Intn(len(l)), rng.Intn(len(l))
	x, y := &l[i], &l[j]
	switch kind := rng.Intn(12); {
	case kind == 0:
		x.Core = near(rng, x.Core)
	case kind == 1:
		l[i], l[j] = l[j], l[i]
	case kind == 2:
		return slices.Insert(l, i, deepTables(l[j:j+1])...)
	case kind == 3:
		return slices.Delete(l, i, i+1)
	case kind == 4:
		x.Ticks = append(x.Ticks, 0)
	case kind == 5:
		x.Wholes = append(x.Wholes, wantOf(near(rng, 3), near(rng, 1)))
	case len(x.Ticks) == 0 || len(y.Ticks) == 0:
	case kind == 6:
		x.Ticks = x.Ticks[1:]
	case kind == 7:
		a, b := rng.Intn(len(x.Ticks)), rng.Intn(len(y.Ticks))
		x.Ticks[a], y.Ticks[b] = y.Ticks[b], x.Ticks[a]
	case kind == 8:
		x.Ticks[rng.Intn(len(x.Ticks))] = near(rng, 1)
	case len(x.Wholes) == 0:
		x.Ticks[rng.Intn(len(x.Ticks))] = y.Ticks[rng.Intn(len(y.Ticks))]
	default:
		spoilWants(rng, x, y)
	}
	return l
}

// spoilWants changes something of who is whole; the first table has somebody.
func spoilWants(rng *rand.Rand, x, y *table.Table) {
	a, b := rng.Intn(len(x.Wholes)), rng.Intn(len(x.Wholes))
	switch rng.Intn(5) {
	case 0:
		x.Wholes[a].Unit = near(rng, x.Wholes[a].Unit)
	case 1:
		x.Wholes[a].Share = near(rng, x.Wholes[a].Share)
	case 2:
		x.Wholes[a], x.Wholes[b] = x.Wholes[b], x.Wholes[a]
	case 3:
		y.Wholes = append(y.Wholes, x.Wholes[a])
	default:
		x.Wholes = slices.Delete(x.Wholes, a, a+1)
	}
}

// TestBackAny holds P17.2 for the tables of any right plans in which something was changed.
func TestBackAny(t *testing.T) {
	rng := rand.New(rand.NewSource(172))
	right, wrong := 0, 0
	for range 3000 {
		p := somePlan(rng)
		tables, _ := table.Of(p)
		for range 8 {
			l, f := deepTables(tables), p.Frame
			for range 1 + rng.Intn(2) {
				if len(l) > 0 {
					l = spoil(rng, l)
				}
			}
			if rng.Intn(20) == 0 {
				f = near(rng, f)
			}
			if checkBack(t, f, l) {
				right++
			} else {
				wrong++
			}
		}
	}
	if right < 1000 || wrong < 1000 {
		t.Error(right, wrong)
	}
}

// TestAnyTables holds that no call panics, whatever tables it is given.
func TestAnyTables(t *testing.T) {
	rng := rand.New(rand.NewSource(175))
	number := func() int {
		if rng.Intn(4) == 0 {
			return farNumbers[rng.Intn(len(farNumbers))]
		}
		return rng.Intn(70) - 2
	}
	for range 5000 {
		var l []table.Table
		for range rng.Intn(4) {
			x := tab(number(), nil)
			for range rng.Intn(6) {
				x.Ticks = append(x.Ticks, number())
			}
			for range rng.Intn(3) {
				x.Wholes = append(x.Wholes, wantOf(number(), number()))
			}
			table.Loose(x)
			l = append(l, x)
		}
		checkBack(t, number(), l)
		checkBack(t, rng.Intn(6), l)
		table.At(l, number(), number())
		table.Busy(l, number())
	}
}

// TestBackSteady holds that one list of tables has one answer, with many units that have windows.
func TestBackSteady(t *testing.T) {
	var l []table.Table
	for core := range 16 {
		l = append(l, tab(core, make([]int, 64)))
	}
	for i := range 15 {
		l[i].Ticks[4*i], l[15].Ticks[4*i+1] = 1040-i, 1040-i
		l[i].Wholes = []want{wantOf(100-i, 3)}
	}
	first, e := table.Back(64, l...)
	if e != api.OK || len(first.Places) != 30 {
		t.Fatal(first, e)
	}
	for range 100 {
		if p, e := table.Back(64, l...); e != api.OK || !reflect.DeepEqual(p, first) {
			t.Fatal(p, e)
		}
	}
}

// planWithSpare is a plan behind whose lists there are others in the same memory.
func planWithSpare(p api.Plan) api.Plan {
	p = deep(p)
	for i, x := range p.Places {
		p.Places[i].Pieces = append(x.Pieces, at(9, 60), at(10, 61), at(11, 62))[:len(x.Pieces)]
	}
	p.Places = append(p.Places, whole(70, 7, 7), split(80, 8, at(8, 8), at(9, 9)))[:len(p.Places)]
	return p
}

// tablesWithSpare are tables behind whose lists there are others in the same memory.
func tablesWithSpare(l []table.Table) []table.Table {
	l = deepTables(l)
	for i, x := range l {
		l[i].Ticks = append(x.Ticks, 71, 72, 73)[:len(x.Ticks)]
		l[i].Wholes = append(x.Wholes, wantOf(74, 1), wantOf(75, 2))[:len(x.Wholes)]
	}
	return append(l, tab(7, []int{70, 70}, wantOf(76, 3)))[:len(l)]
}

// allPlan and allTables are lists with what lies behind them, in memory of its own.
func allPlan(p api.Plan) api.Plan {
	p.Places = slices.Clone(p.Places[:cap(p.Places)])
	for i, x := range p.Places {
		p.Places[i].Pieces = slices.Clone(x.Pieces[:cap(x.Pieces)])
	}
	return p
}

func allTables(l []table.Table) []table.Table {
	l = slices.Clone(l[:cap(l)])
	for i, x := range l {
		l[i].Ticks, l[i].Wholes = slices.Clone(x.Ticks[:cap(x.Ticks)]), slices.Clone(x.Wholes[:cap(x.Wholes)])
	}
	return l
}

// ruinPlan and ruinTables change whatever is in lists, and what lies behind it.
func ruinPlan(p api.Plan) {
	places := p.Places[:cap(p.Places)]
	for i, x := range places {
		pieces := x.Pieces[:cap(x.Pieces)]
		for j := range pieces {
			pieces[j] = piece{Core: -77, Ticks: 0x7777}
		}
		places[i] = place{Unit: -7, Share: -77, Core: -777, Pieces: []piece{{Core: 7}}}
	}
}

func ruinTables(l []table.Table) {
	l = l[:cap(l)]
	for i, x := range l {
		ticks, wholes := x.Ticks[:cap(x.Ticks)], x.Wholes[:cap(x.Wholes)]
		for j := range ticks {
			ticks[j] = -7
		}
		for j := range wholes {
			wholes[j] = wantOf(-77, -777)
		}
		l[i] = tab(-7, []int{7}, wantOf(77, 777))
	}
}

// TestOfMemory holds that the tables of a plan share no memory with it nor with others, and that the plan stays.
func TestOfMemory(t *testing.T) {
	for _, p := range []api.Plan{planWithSpare(busy()), deep(busy()), planWithSpare(right()), planWithSpare(planOf(10, 0xffff)), planOf(2, 1)} {
		was := allPlan(p)
		first, _ := table.Of(p)
		second, _ := table.Of(p)
		kept := deepTables(second)
		ruinTables(first)
		third, _ := table.Of(p)
		if !reflect.DeepEqual(allPlan(p), was) || !sameTables(second, kept) || !sameTables(third, kept) {
			t.Errorf("%v, %v; want %v, %v", allPlan(p), second, was, kept)
		}
		ruinPlan(p)
		if !sameTables(second, kept) {
			t.Errorf("%v once the plan changes; want %v", second, kept)
		}
		// No two lists of one answer share memory.
		for i := range second {
			_ = append(second[i].Ticks, slices.Repeat([]int{-7}, 64)...)
			_ = append(second[i].Wholes, wantOf(-7, -77), wantOf(-7, -77))
			_ = append(second, tab(-7, nil), tab(-7, nil))
			if !sameTables(second, kept) {
				t.Fatalf("%v; want %v", second, kept)
			}
		}
	}
}

// TestBackMemory holds that the plan of tables shares no memory with them nor with others, and that they stay.
func TestBackMemory(t *testing.T) {
	for _, tables := range [][]table.Table{base(), busyTables(), {tab(3, []int{0, 0})}} {
		l, f := tablesWithSpare(tables), len(tables[0].Ticks)
		was := allTables(l)
		first, _ := table.Back(f, l...)
		second, e := table.Back(f, l...)
		kept := deep(second)
		ruinPlan(first)
		third, _ := table.Back(f, l...)
		if e != api.OK || !reflect.DeepEqual(allTables(l), was) || !samePlan(second, kept) || !samePlan(third, kept) {
			t.Errorf("%v, %v; want %v, %v", allTables(l), second, was, kept)
		}
		ruinTables(l)
		if !samePlan(second, kept) {
			t.Errorf("%v once the tables change; want %v", second, kept)
		}
		for i := range second.Places {
			_ = append(second.Places[i].Pieces, at(1, 1), at(2, 2), at(3, 3), at(4, 4))
			_ = append(second.Places, whole(1, 1, 1), whole(1, 1, 1))
			if !samePlan(second, kept) {
				t.Fatalf("%v; want %v", second, kept)
			}
		}
	}
	// Tables that Back refuses stay too: out of order, cores, wants and units.
	l := tablesWithSpare(append(base(), busyTables()...))
	slices.Reverse(l)
	slices.Reverse(l[6].Wholes)
	was := allTables(l)
	for _, f := range []int{6, 10, -1, math.MaxInt} {
		if p, e := table.Back(f, l...); e != api.ErrPlan || !samePlan(p, api.Plan{}) || !reflect.DeepEqual(allTables(l), was) {
			t.Error(p, e, allTables(l), was)
		}
	}
}

// TestReadsMemory holds that what Busy answers is memory of its own, and that the reading calls change nothing.
func TestReadsMemory(t *testing.T) {
	l := tablesWithSpare(busyTables())
	was := allTables(l)
	for tick := -1; tick <= 11; tick++ {
		first, second := table.Busy(l, tick), table.Busy(l, tick)
		kept := slices.Clone(second)
		for i := range first[:cap(first)] {
			first[:cap(first)][i] = -7
		}
		if !slices.Equal(second, kept) || !slices.Equal(table.Busy(l, tick), kept) {
			t.Error(tick, second, kept)
		}
		for core := -1; core <= 16; core++ {
			table.At(l, core, tick)
		}
	}
	for _, x := range l {
		table.Loose(x)
	}
	if !reflect.DeepEqual(allTables(l), was) {
		t.Errorf("%v; it was %v", allTables(l), was)
	}
	units := table.Busy(l, 0)
	ruinTables(l)
	if !slices.Equal(units, []int{5, 1001}) {
		t.Error(units)
	}
}
