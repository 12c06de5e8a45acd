package moves_test

import (
	"cmp"
	"math"
	"math/bits"
	"reflect"
	"slices"
	"testing"

	"dogwatch/api"
	"dogwatch/diff"
	"dogwatch/moves"
	"dogwatch/plan"
)

type (
	piece = api.Piece
	place = api.Place
)

// farNumbers are no ticks of a frame, units, shares, budgets or cores; some of them are one in their lowest bits.
var farNumbers = []int{
	math.MinInt, math.MinInt + 1, math.MinInt + 4, -1 << 32, -1<<32 + 1, -1000, -65, -64, -17, -16, -2, -1,
	1 << 16, 1 << 32, 1<<32 + 1, 1<<32 + 4, 1<<40 + 2, math.MaxInt - 1, math.MaxInt,
}

func whole(unit, share, core int) place { return place{Unit: unit, Share: share, Core: core} }

func split(unit, share int, pieces ...piece) place {
	return place{Unit: unit, Share: share, Pieces: pieces}
}

// at is a piece of these ticks.
func at(core int, ticks ...int) piece {
	y := piece{Core: core}
	for _, tick := range ticks {
		y.Ticks |= 1 << tick
	}
	return y
}

// span is a piece of the ticks from one to ahead of another.
func span(core, from, to int) piece {
	y := piece{Core: core}
	for tick := from; tick < to; tick++ {
		y.Ticks |= 1 << tick
	}
	return y
}

func planOf(f int, cores uint32, places ...place) api.Plan {
	return api.Plan{Frame: f, Cores: cores, Places: places}
}

// with is a plan with further places, in the order of their units.
func with(p api.Plan, places ...place) api.Plan {
	p = deep(p)
	p.Places = append(p.Places, places...)
	slices.SortFunc(p.Places, func(a, b place) int { return cmp.Compare(a.Unit, b.Unit) })
	return p
}

// moved is a plan of which some units are whole on other cores.
func moved(p api.Plan, cores map[int]int) api.Plan {
	p = deep(p)
	for i, x := range p.Places {
		if core, ok := cores[x.Unit]; ok {
			p.Places[i] = whole(x.Unit, x.Share, core)
		}
	}
	return p
}

// left is a plan in which these cores, and no others, have these rooms: on each a unit from 101 on is whole and has the rest of the frame.
func left(f int, rooms map[int]int) api.Plan {
	p := planOf(f, 0)
	for core := range 16 {
		room, ok := rooms[core]
		if ok {
			p.Cores |= 1 << core
		}
		if ok && room < f {
			p.Places = append(p.Places, whole(101+core, f-room, core))
		}
	}
	return p
}

// even is the same room for each of the cores from 0 to ahead of n.
func even(n, room int) map[int]int {
	rooms := map[int]int{}
	for core := range n {
		rooms[core] = room
	}
	return rooms
}

// deep is a plan that shares no memory with another one; what is empty is nil.
func deep(p api.Plan) api.Plan {
	var places []place
	for _, x := range p.Places {
		x.Pieces = append([]piece(nil), x.Pieces...)
		places = append(places, x)
	}
	p.Places = places
	return p
}

func samePlan(a, b api.Plan) bool { return reflect.DeepEqual(deep(a), deep(b)) }

// hasCore tells whether a plan, which may not be right, has a core, which may be any number.
func hasCore(p api.Plan, core int) bool { return core >= 0 && core < 16 && p.Cores>>core%2 == 1 }

// roomOf is a core's room by the document's words, 0 for one that the plan lacks.
func roomOf(p api.Plan, core int) int {
	if !hasCore(p, core) {
		return 0
	}
	room := p.Frame
	for _, x := range p.Places {
		if len(x.Pieces) == 0 && x.Core == core {
			room -= x.Share
		}
		for _, y := range x.Pieces {
			if y.Core == core {
				room -= bits.OnesCount64(y.Ticks)
			}
		}
	}
	return room
}

// ordered are the indices of the places that are whole on a core, in the order in which they are asked whether another core has room.
func ordered(p api.Plan, core int) []int {
	var l []int
	for i, x := range p.Places {
		if len(x.Pieces) == 0 && x.Core == core {
			l = append(l, i)
		}
	}
	slices.SortFunc(l, func(i, j int) int {
		a, b := p.Places[i], p.Places[j]
		return cmp.Or(cmp.Compare(a.Share, b.Share), cmp.Compare(a.Unit, b.Unit))
	})
	return l
}

// nextOf is the index of the place that is moved from a core, and the core on which it becomes whole, by the document's words: each place is tried on each core.
func nextOf(p api.Plan, core int) (index, to int, ok bool) {
	for _, i := range ordered(p, core) {
		for other := range 16 {
			if other != core && hasCore(p, other) && roomOf(p, other) >= p.Places[i].Share {
				return i, other, true
			}
		}
	}
	return 0, 0, false
}

// emptyOf is the model of a core of a right plan that is emptied, if it can be.
func emptyOf(p api.Plan, core, share, budget int) (api.Plan, []int, bool) {
	p = deep(p)
	var units []int
	for roomOf(p, core) < share {
		i, to, ok := nextOf(p, core)
		if !ok || len(units) == budget {
			return api.Plan{}, nil, false
		}
		p.Places[i].Core = to
		units = append(units, p.Places[i].Unit)
	}
	return p, units, true
}

// roomModel is the model of Room for a right plan, share and budget.
func roomModel(p api.Plan, share, budget int) (api.Plan, int, []int, bool) {
	for core := range 16 {
		if !hasCore(p, core) {
			continue
		}
		if q, units, ok := emptyOf(p, core, share, budget); ok {
			return q, core, units, true
		}
	}
	return api.Plan{}, 0, nil, false
}

// errorOf is the error by the document's words of what is asked of all cores of a plan.
func errorOf(p api.Plan, share, budget int) api.Errno {
	if plan.Check(p) != api.OK {
		return api.ErrPlan
	}
	if share < 1 || share > p.Frame {
		return api.ErrShare
	}
	if budget < 0 || budget > 8 {
		return api.ErrArg
	}
	return api.OK
}

// answer is what a call came to.
type answer struct {
	p     api.Plan
	core  int
	units []int
	e     api.Errno
}

func sameAnswer(a, b answer) bool {
	return samePlan(a.p, b.p) && a.core == b.core && slices.Equal(a.units, b.units) && a.e == b.e
}

// rightEmpty is the model of Empty for any arguments; the core is not answered.
func rightEmpty(p api.Plan, core, share, budget int) answer {
	if e := errorOf(p, share, budget); e != api.OK {
		return answer{e: e}
	}
	if !hasCore(p, core) {
		return answer{e: api.ErrCore}
	}
	q, units, ok := emptyOf(p, core, share, budget)
	if !ok {
		return answer{e: api.ErrFull}
	}
	return answer{p: q, units: units}
}

// rightRoom is the model of Room for any arguments.
func rightRoom(p api.Plan, share, budget int) answer {
	if e := errorOf(p, share, budget); e != api.OK {
		return answer{e: e}
	}
	q, core, units, ok := roomModel(p, share, budget)
	if !ok {
		return answer{e: api.ErrFull}
	}
	return answer{p: q, core: core, units: units}
}

// empty is what Empty answers.
func empty(p api.Plan, core, share, budget int) answer {
	q, units, e := moves.Empty(p, core, share, budget)
	return answer{p: q, units: units, e: e}
}

// room is what Room answers.
func room(p api.Plan, share, budget int) answer {
	q, core, units, e := moves.Room(p, share, budget)
	return answer{p: q, core: core, units: units, e: e}
}

// checkEmpty holds P23.1 for any arguments, and P23.3 for what it comes to.
func checkEmpty(t *testing.T, p api.Plan, core, share, budget int) answer {
	t.Helper()
	before := deep(p)
	got := empty(p, core, share, budget)
	if right := rightEmpty(p, core, share, budget); !sameAnswer(got, right) {
		t.Errorf("Empty(%v, %d, %d, %d): %v; want %v", p, core, share, budget, got, right)
	}
	if !samePlan(p, before) {
		t.Errorf("Empty(%v, %d, %d, %d) left %v", before, core, share, budget, p)
	}
	if got.e == api.OK {
		checkKept(t, p, got.p, core, share, budget, got.units)
	}
	return got
}

// checkRoom holds P23.2 for any arguments, and P23.3 for what it comes to: it is what Empty answers for the lowest core for which that answers no error.
func checkRoom(t *testing.T, p api.Plan, share, budget int) answer {
	t.Helper()
	before := deep(p)
	got := room(p, share, budget)
	if right := rightRoom(p, share, budget); !sameAnswer(got, right) {
		t.Errorf("Room(%v, %d, %d): %v; want %v", p, share, budget, got, right)
	}
	if !samePlan(p, before) {
		t.Errorf("Room(%v, %d, %d) left %v", before, share, budget, p)
	}
	if got.e == api.OK {
		checkKept(t, p, got.p, got.core, share, budget, got.units)
	}
	if e := errorOf(p, share, budget); e != api.OK {
		return got
	}
	first := answer{e: api.ErrFull}
	for core := 15; core >= 0; core-- {
		if x := empty(p, core, share, budget); x.e == api.OK {
			first = x
			first.core = core
		}
	}
	if !sameAnswer(got, first) {
		t.Errorf("Room(%v, %d, %d): %v; Empty: %v", p, share, budget, got, first)
	}
	return got
}

// checkKept holds P23.3 for a core that was emptied.
func checkKept(t *testing.T, p, got api.Plan, core, share, budget int, units []int) {
	t.Helper()
	if plan.Check(got) != api.OK || got.Frame != p.Frame || got.Cores != p.Cores || !slices.Equal(plan.Wants(got), plan.Wants(p)) {
		t.Errorf("%v became %v", p, got)
	}
	if rising := slices.Sorted(slices.Values(units)); !slices.Equal(diff.Moved(p, got), rising) || len(units) > budget {
		t.Errorf("%v became %v: %v moved, with the budget %d", p, got, units, budget)
	}
	if !hasCore(got, core) || roomOf(got, core) < share {
		t.Errorf("%v became %v: the core %d has the room %d; want %d", p, got, core, roomOf(got, core), share)
	}
	smaller := 0
	for i, unit := range units {
		was, _ := plan.Find(p, unit)
		now, _ := plan.Find(got, unit)
		if len(was.Pieces) != 0 || was.Core != core || len(now.Pieces) != 0 || now.Core == core {
			t.Errorf("%v became %v: %v is not moved from the core %d", p, got, was, core)
		}
		// Those who stay have no smaller Share, and the last one was needed still.
		if was.Share < smaller || i == len(units)-1 && roomOf(got, core)-was.Share >= share {
			t.Errorf("%v became %v: %v moved", p, got, units)
		}
		smaller = was.Share
	}
	for _, x := range got.Places {
		if was, ok := plan.Find(p, x.Unit); !ok || !slices.Contains(units, x.Unit) && !plan.SamePlace(was, x) {
			t.Errorf("%v became %v: %v was %v", p, got, x, was)
		}
	}
}

// emptyIs holds Empty, and the model too, against the units that a test names in their order, and where they go: to each unit the core.
func emptyIs(t *testing.T, p api.Plan, core, share, budget int, unitsTo ...[2]int) {
	t.Helper()
	if plan.Check(p) != api.OK {
		t.Fatalf("%v is not right", p)
	}
	got := checkEmpty(t, p, core, share, budget)
	if right := answerOf(p, 0, unitsTo); !sameAnswer(got, right) {
		t.Errorf("Empty(%v, %d, %d, %d): %v; want %v", p, core, share, budget, got, right)
	}
	// One move fewer is too few.
	if n := len(unitsTo); n > 0 {
		emptyFails(t, api.ErrFull, p, core, share, n-1)
	}
}

// roomIs holds Room, and the model too, against the core that a test names and the units, each with the core where it goes.
func roomIs(t *testing.T, p api.Plan, share, budget, core int, unitsTo ...[2]int) {
	t.Helper()
	if plan.Check(p) != api.OK {
		t.Fatalf("%v is not right", p)
	}
	got := checkRoom(t, p, share, budget)
	if right := answerOf(p, core, unitsTo); !sameAnswer(got, right) {
		t.Errorf("Room(%v, %d, %d): %v; want %v", p, share, budget, got, right)
	}
}

// answerOf is the answer in which these units are moved, each to the core beside it.
func answerOf(p api.Plan, core int, unitsTo [][2]int) answer {
	cores, right := map[int]int{}, answer{core: core}
	for _, x := range unitsTo {
		right.units = append(right.units, x[0])
		cores[x[0]] = x[1]
	}
	right.p = moved(p, cores)
	return right
}

// emptyFails holds Empty, and the model too, against an error that a test names; all beside it are zero values.
func emptyFails(t *testing.T, e api.Errno, p api.Plan, core, share, budget int) {
	t.Helper()
	if got := checkEmpty(t, p, core, share, budget); !sameAnswer(got, answer{e: e}) {
		t.Errorf("Empty(%v, %d, %d, %d): %v; want nothing, %d", p, core, share, budget, got, e)
	}
}

// roomFails holds Room, and the model too, against an error that a test names; all beside it are zero values.
func roomFails(t *testing.T, e api.Errno, p api.Plan, share, budget int) {
	t.Helper()
	if got := checkRoom(t, p, share, budget); !sameAnswer(got, answer{e: e}) {
		t.Errorf("Room(%v, %d, %d): %v; want nothing, %d", p, share, budget, got, e)
	}
}

// TestExamples holds the examples of the chapter, and the document's fifth one.
func TestExamples(t *testing.T) {
	p := planOf(4, 3, whole(1, 2, 0), whole(2, 1, 0), whole(3, 3, 1))
	roomIs(t, p, 2, 1, 0, [2]int{2, 1})
	if q := room(p, 2, 1).p; plan.Room(q, 0) != 2 {
		t.Error(q)
	}
	roomFails(t, api.ErrFull, p, 2, 0)
	emptyFails(t, api.ErrFull, p, 1, 2, 8)
	emptyFails(t, api.ErrCore, p, 2, 2, 8)
	emptyFails(t, api.ErrShare, p, 1, 5, 8)
	emptyFails(t, api.ErrShare, p, 2, 5, 8)
}

// busy is a plan of a frame of 12 whose cores 3, 5, 7 and 15 have the rooms 1, 6, 2 and 3; two of its units are split.
func busy() api.Plan {
	return planOf(12, 1<<3|1<<5|1<<7|1<<15,
		whole(2, 3, 3),
		split(5, 6, at(3, 0, 9), at(15, 1, 2, 3, 4)),
		whole(9, 3, 5),
		whole(40, 2, 3),
		whole(199, 3, 7),
		whole(200, 2, 3),
		split(1001, 6, at(3, 4, 5), at(5, 0, 1, 2), at(15, 11)),
		whole(1004, 4, 15),
		whole(1040, 7, 7),
	)
}

// TestEmptyHas holds P23.1 for a core that has the room already: the plan is the same and nobody is moved, with the budget 0 too.
func TestEmptyHas(t *testing.T) {
	stuck := planOf(4, 3, whole(1, 1, 0), whole(2, 1, 0), whole(3, 3, 1))
	for _, p := range []api.Plan{busy(), stuck, planOf(2, 1), planOf(64, 0xffff), left(9, even(16, 4)), left(9, map[int]int{15: 9, 2: 0})} {
		for core := range 16 {
			for share := 1; share <= roomOf(p, core); share++ {
				for budget := range 9 {
					emptyIs(t, p, core, share, budget)
				}
			}
		}
	}
	for core, room := range map[int]int{3: 1, 5: 6, 7: 2, 15: 3} {
		emptyIs(t, busy(), core, room, 0)
		emptyFails(t, api.ErrFull, busy(), core, room+1, 0)
	}
}

// TestEmptyMany holds P23.1 for a core of which one unit, some, and all must be moved.
func TestEmptyMany(t *testing.T) {
	p := planOf(10, 3, whole(1, 1, 0), whole(2, 3, 0), whole(3, 2, 0), whole(1001, 1, 0))
	all := [][2]int{{1, 1}, {1001, 1}, {3, 1}, {2, 1}}
	for share, n := range []int{0, 0, 0, 0, 1, 2, 3, 3, 4, 4, 4} {
		if share > 0 {
			emptyIs(t, p, 0, share, 8, all[:n]...)
			emptyIs(t, p, 0, share, n, all[:n]...)
		}
	}
	// The room of the other core is used up.
	q := with(p, whole(9, 3, 1))
	emptyIs(t, q, 0, 10, 8, all...)
	emptyFails(t, api.ErrFull, with(q, whole(10, 1, 1)), 0, 10, 8)
	emptyIs(t, with(q, whole(10, 1, 1)), 0, 7, 8, all[:3]...)
	// One unit is all there is.
	emptyIs(t, planOf(8, 5, whole(7, 8, 0)), 0, 1, 1, [2]int{7, 2})
	emptyIs(t, planOf(8, 5, whole(7, 8, 2)), 2, 8, 8, [2]int{7, 0})
	emptyIs(t, planOf(8, 5, whole(7, 1, 2)), 2, 8, 8, [2]int{7, 0})
}

// TestEmptyBudget holds P23.1 for as many moves as the budget, and for one more.
func TestEmptyBudget(t *testing.T) {
	for n := 1; n <= 12; n++ {
		p := planOf(12, 1<<4|1<<9)
		var all [][2]int
		for unit := 1; unit <= 12; unit++ {
			p.Places = append(p.Places, whole(unit, 1, 9))
			all = append(all, [2]int{unit, 4})
		}
		for budget := range 9 {
			if n <= budget {
				emptyIs(t, p, 9, n, budget, all[:n]...)
				roomIs(t, p, n, budget, 4)
			} else {
				emptyFails(t, api.ErrFull, p, 9, n, budget)
			}
		}
		for _, budget := range append([]int{-1, 9, 10, 12, 64}, farNumbers...) {
			emptyFails(t, api.ErrArg, p, 9, n, budget)
			roomFails(t, api.ErrArg, p, n, budget)
		}
	}
	// A single unit, with the budgets 0 and 1.
	p := planOf(6, 3, whole(1, 4, 1), whole(2, 1, 0))
	emptyIs(t, p, 1, 2, 0)
	emptyFails(t, api.ErrFull, p, 1, 3, 0)
	emptyIs(t, p, 1, 3, 1, [2]int{1, 0})
	emptyIs(t, p, 1, 6, 1, [2]int{1, 0})
}

// TestEmptyShares holds P23.1 for the least and the greatest shares, and those beside them, in frames of 2 to 64 ticks.
func TestEmptyShares(t *testing.T) {
	for f := 2; f <= 64; f++ {
		p := planOf(f, 3, whole(7, 1, 0), whole(1007, f-1, 0))
		emptyIs(t, p, 0, 1, 8, [2]int{7, 1})
		emptyIs(t, p, 0, f, 8, [2]int{7, 1}, [2]int{1007, 1})
		emptyIs(t, planOf(f, 3, whole(7, f, 0)), 0, f, 1, [2]int{7, 1})
		emptyIs(t, planOf(f, 3, whole(7, f, 0)), 0, 1, 1, [2]int{7, 1})
		emptyIs(t, planOf(f, 3), 0, f, 0)
		for _, share := range append([]int{0, f + 1, 65, 66, 128}, farNumbers...) {
			emptyFails(t, api.ErrShare, p, 0, share, 8)
			emptyFails(t, api.ErrShare, p, 1, share, 0)
			emptyFails(t, api.ErrShare, planOf(f, 3), 0, share, 8)
			roomFails(t, api.ErrShare, p, share, 8)
		}
	}
	p := planOf(2, 3, whole(1, 1, 0), whole(2, 1, 0), whole(3, 1, 1))
	emptyIs(t, p, 0, 1, 1, [2]int{1, 1})
	emptyIs(t, p, 1, 1, 0)
	emptyFails(t, api.ErrFull, p, 0, 2, 8)
	emptyFails(t, api.ErrFull, p, 1, 2, 8)
}

// TestEmptyOrder holds P23.1 for the order in which units are moved: the smaller Shares first, of equal ones the lower units, those of tasks ahead of those of groups.
func TestEmptyOrder(t *testing.T) {
	p := planOf(12, 3, whole(3, 2, 0), whole(8, 2, 0), whole(11, 1, 0), whole(200, 2, 0), whole(1002, 1, 0), whole(1003, 2, 0), whole(1040, 2, 0))
	all := [][2]int{{11, 1}, {1002, 1}, {3, 1}, {8, 1}, {200, 1}, {1003, 1}, {1040, 1}}
	for n, share := range []int{0, 1, 2, 4, 6, 8, 10, 12} {
		if n > 0 {
			emptyIs(t, p, 0, share, 8, all[:n]...)
		}
	}
	// A task and the group of its number.
	q := planOf(4, 3, whole(7, 2, 0), whole(1007, 2, 0))
	emptyIs(t, q, 0, 2, 8, [2]int{7, 1})
	emptyIs(t, q, 0, 4, 8, [2]int{7, 1}, [2]int{1007, 1})
	emptyIs(t, planOf(4, 3, whole(7, 3, 0), whole(1007, 1, 0)), 0, 1, 8, [2]int{1007, 1})
	emptyIs(t, planOf(4, 3, whole(7, 1, 0), whole(1007, 3, 0)), 0, 1, 8, [2]int{7, 1})
	// The greater one alone would do in one move, but the smaller one comes first.
	r := planOf(8, 3, whole(1, 5, 0), whole(2, 3, 0))
	emptyIs(t, r, 0, 5, 2, [2]int{2, 1}, [2]int{1, 1})
	emptyFails(t, api.ErrFull, with(r, whole(3, 2, 1)), 0, 5, 8)
	emptyFails(t, api.ErrFull, with(r, whole(3, 1, 1)), 0, 5, 8)
}

// TestEmptyNowhere holds P23.1 for units that fit nowhere else. Whoever has a smaller Share fits where a greater one does, so nobody is passed over.
func TestEmptyNowhere(t *testing.T) {
	p := planOf(8, 7, whole(1, 3, 0), whole(2, 5, 0), whole(3, 6, 1), whole(4, 6, 2))
	for share := 1; share <= 8; share++ {
		emptyFails(t, api.ErrFull, p, 0, share, 8)
	}
	// With one tick more the smaller one fits, and the greater one does not.
	q := planOf(8, 7, whole(1, 3, 0), whole(2, 5, 0), whole(3, 6, 1), whole(4, 5, 2))
	for share := 1; share <= 8; share++ {
		if share <= 3 {
			emptyIs(t, q, 0, share, 8, [2]int{1, 2})
		} else {
			emptyFails(t, api.ErrFull, q, 0, share, 8)
		}
	}
	// One core has room for the greater one, which the smaller one takes.
	r := planOf(8, 7, whole(1, 3, 0), whole(2, 5, 0), whole(3, 6, 1), whole(4, 3, 2))
	emptyIs(t, r, 0, 3, 8, [2]int{1, 2})
	emptyFails(t, api.ErrFull, r, 0, 4, 8)
	// No core has room at all.
	full := left(6, even(16, 0))
	for core := range 16 {
		for share := 1; share <= 6; share++ {
			emptyFails(t, api.ErrFull, full, core, share, 8)
		}
	}
	roomFails(t, api.ErrFull, full, 1, 8)
}

// TestEmptyWhere holds P23.1 for where a unit goes: to the lowest of several other cores, to one below or above.
func TestEmptyWhere(t *testing.T) {
	for core := range 16 {
		for target := range 16 {
			if target == core {
				continue
			}
			// The target is the only one that has room, and the core itself has room as well.
			rooms := even(16, 1)
			rooms[target], rooms[core] = 3, 6
			p := with(left(9, rooms), whole(1, 2, core), whole(2, 3, core))
			emptyIs(t, p, core, 3, 8, [2]int{1, target})
			emptyFails(t, api.ErrFull, p, core, 6, 8)
			// Several have room, and the target is not the one that has the most.
			for other := target; other < 16; other++ {
				rooms[other] = 3 + other - target
			}
			rooms[core] = 6
			emptyIs(t, with(left(20, rooms), whole(1, 2, core), whole(2, 3, core)), core, 3, 8, [2]int{1, target})
		}
	}
	// Not next to each other, and of cores that the plan lacks none is taken.
	p := planOf(8, 1<<2|1<<6|1<<11|1<<15, whole(1, 8, 6), whole(2, 1, 2), whole(3, 2, 11))
	emptyIs(t, p, 6, 8, 1, [2]int{1, 15})
	emptyIs(t, with(p, whole(4, 3, 15)), 2, 8, 1, [2]int{2, 11})
	emptyIs(t, p, 11, 8, 1, [2]int{3, 2})
	emptyFails(t, api.ErrFull, with(p, whole(4, 1, 15)), 6, 1, 8)
	// The core 15 is emptied, to the next one and to the lowest.
	emptyIs(t, planOf(8, 1<<14|1<<15, whole(1, 5, 15), whole(2, 3, 15)), 15, 8, 2, [2]int{2, 14}, [2]int{1, 14})
	emptyIs(t, planOf(8, 0xffff, whole(1, 5, 15), whole(2, 3, 15)), 15, 8, 2, [2]int{2, 0}, [2]int{1, 0})
	emptyIs(t, planOf(64, 0xffff, whole(1, 60, 15), whole(2, 3, 0), whole(1040, 4, 15)), 15, 64, 2, [2]int{1040, 0}, [2]int{1, 1})
}

// TestEmptyLast holds P23.1 for cores whose first moves are possible while the last is not: nothing is answered of the first ones.
func TestEmptyLast(t *testing.T) {
	p := planOf(8, 7, whole(1, 1, 1), whole(2, 2, 1), whole(3, 4, 1), whole(4, 5, 0), whole(5, 5, 2))
	emptyIs(t, p, 1, 2, 8, [2]int{1, 0})
	emptyIs(t, p, 1, 4, 8, [2]int{1, 0}, [2]int{2, 0})
	for share := 5; share <= 8; share++ {
		emptyFails(t, api.ErrFull, p, 1, share, 8)
	}
	// All others go, on all cores, and one stays.
	rooms := even(16, 1)
	rooms[8] = 9
	q := left(9, rooms)
	for unit := 1; unit <= 7; unit++ {
		q = with(q, whole(unit, 1, 8))
	}
	q = with(q, whole(1001, 2, 8))
	var all [][2]int
	for unit := 1; unit <= 7; unit++ {
		all = append(all, [2]int{unit, unit - 1})
	}
	emptyIs(t, q, 8, 7, 8, all...)
	emptyFails(t, api.ErrFull, q, 8, 8, 8)
	emptyFails(t, api.ErrFull, q, 8, 9, 8)
}

// TestEmptyRooms holds P23.1 for rooms that a move itself changes, so that a later unit must go elsewhere.
func TestEmptyRooms(t *testing.T) {
	p := planOf(8, 15, whole(1, 2, 2), whole(2, 2, 2), whole(3, 2, 2), whole(4, 2, 2), whole(5, 5, 0), whole(6, 4, 1), whole(7, 4, 3))
	all := [][2]int{{1, 0}, {2, 1}, {3, 1}, {4, 3}}
	for n := 1; n <= 4; n++ {
		emptyIs(t, p, 2, 2*n, 8, all[:n]...)
		emptyIs(t, p, 2, 2*n-1, n, all[:n]...)
	}
	// A greater one passes over a core that the smaller ones have filled.
	q := planOf(10, 0x8101, whole(1, 1, 8), whole(2, 3, 8), whole(4, 6, 0), whole(5, 5, 15), whole(1001, 5, 8))
	emptyIs(t, q, 8, 4, 8, [2]int{1, 0}, [2]int{2, 0})
	emptyIs(t, q, 8, 10, 8, [2]int{1, 0}, [2]int{2, 0}, [2]int{1001, 15})
	emptyIs(t, with(q, whole(3, 1, 0)), 8, 4, 8, [2]int{1, 0}, [2]int{2, 15})
	emptyFails(t, api.ErrFull, with(q, whole(3, 1, 0)), 8, 6, 8)
	// All sixteen: each has room for one.
	r := left(8, even(16, 1))
	r.Places = slices.DeleteFunc(r.Places, func(x place) bool { return x.Core == 3 })
	for unit := 1; unit <= 8; unit++ {
		r = with(r, whole(unit, 1, 3))
	}
	emptyIs(t, r, 3, 8, 8, [2]int{1, 0}, [2]int{2, 1}, [2]int{3, 2}, [2]int{4, 4}, [2]int{5, 5}, [2]int{6, 6}, [2]int{7, 7}, [2]int{8, 8})
}

// TestEmptyWindows holds P23.1 for cores with windows: split units are never moved, and their windows leave less room.
func TestEmptyWindows(t *testing.T) {
	p := busy()
	// The core 3 has windows of both split units, and two of its whole ones have equal Shares.
	emptyIs(t, p, 3, 2, 8, [2]int{40, 5})
	emptyIs(t, p, 3, 4, 8, [2]int{40, 5}, [2]int{200, 5})
	emptyIs(t, p, 3, 8, 8, [2]int{40, 5}, [2]int{200, 5}, [2]int{2, 15})
	emptyFails(t, api.ErrFull, p, 3, 9, 8)
	emptyIs(t, p, 5, 9, 8, [2]int{9, 15})
	emptyFails(t, api.ErrFull, p, 5, 10, 8)
	emptyIs(t, p, 15, 7, 8, [2]int{1004, 5})
	emptyFails(t, api.ErrFull, p, 15, 8, 8)
	emptyIs(t, p, 7, 5, 8, [2]int{199, 5})
	emptyFails(t, api.ErrFull, p, 7, 6, 8)
	// A core that is full of windows: of one unit, and of two.
	q := planOf(4, 7, split(1, 4, at(0, 0, 1), at(1, 2, 3)), split(2, 4, at(0, 2, 3), at(1, 0, 1)))
	emptyFails(t, api.ErrFull, q, 0, 1, 8)
	emptyFails(t, api.ErrFull, q, 1, 4, 8)
	emptyIs(t, q, 2, 4, 0)
	emptyFails(t, api.ErrFull, with(q, whole(3, 1, 2)), 2, 4, 8)
	r := planOf(64, 0x8001, split(1, 64, span(0, 0, 63), at(15, 63)), whole(2, 1, 0))
	emptyIs(t, r, 0, 1, 1, [2]int{2, 15})
	emptyFails(t, api.ErrFull, r, 0, 2, 8)
	emptyFails(t, api.ErrFull, r, 15, 64, 8)
	emptyIs(t, r, 15, 63, 0)
	// A split unit's Core is 0, where it has no window; its Share is less than that of the whole one.
	s := planOf(8, 0b1011, split(1, 2, at(1, 0), at(3, 1)), whole(2, 7, 0), whole(3, 7, 1))
	emptyIs(t, s, 0, 8, 8, [2]int{2, 3})
	emptyFails(t, api.ErrFull, s, 1, 8, 8)
	emptyIs(t, s, 1, 7, 8, [2]int{3, 3})
	// The windows on the other core leave just the room, and one tick less.
	u := planOf(9, 3, split(1, 7, span(0, 0, 4), span(1, 6, 9)), whole(2, 5, 0), whole(1001, 1, 1))
	emptyIs(t, u, 0, 5, 1, [2]int{2, 1})
	emptyFails(t, api.ErrFull, with(u, whole(3, 1, 1)), 0, 5, 8)
}

// TestEmptyNone holds P23.1 for cores without units, and for one core alone.
func TestEmptyNone(t *testing.T) {
	for core := range 16 {
		for _, f := range []int{2, 9, 64} {
			for _, share := range []int{1, 2, f} {
				emptyIs(t, planOf(f, 1<<core), core, share, 0)
				emptyIs(t, planOf(f, 0xffff), core, share, 8)
				emptyFails(t, api.ErrFull, planOf(f, 1<<core, whole(1, f, core)), core, share, 8)
			}
			// A core alone has nowhere to move its units to, though it has room for them itself.
			p := planOf(f, 1<<core, whole(1040, 1, core))
			emptyIs(t, p, core, f-1, 0)
			emptyFails(t, api.ErrFull, p, core, f, 8)
		}
	}
	// A core without units beside windows, and beside full cores.
	emptyFails(t, api.ErrFull, planOf(4, 7, split(1, 2, at(0, 0), at(1, 1))), 1, 4, 8)
	emptyIs(t, planOf(4, 7, split(1, 2, at(0, 0), at(1, 1))), 1, 3, 8)
	emptyIs(t, left(4, map[int]int{0: 0, 1: 4, 2: 0}), 1, 4, 0)
}
