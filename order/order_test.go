package order_test

import (
	"math"
	"math/big"
	"math/rand"
	"slices"
	"testing"

	"dogwatch/api"
	"dogwatch/order"
)

const (
	least    = math.MinInt
	greatest = math.MaxInt
)

type want = api.Want

// wants are those of these units and shares, two by two.
func wants(numbers ...int) []want {
	var l []want
	for i := 0; i < len(numbers); i += 2 {
		l = append(l, want{Unit: numbers[i], Share: numbers[i+1]})
	}
	return l
}

// A thing is what a unit stands for.
type thing struct {
	id    int
	group bool
}

// units are all units there are, with what they stand for.
func units() map[int]thing {
	all := map[int]thing{}
	for id := 1; id <= 200; id++ {
		all[id] = thing{id, false}
	}
	for id := 1; id <= 40; id++ {
		all[1000+id] = thing{id, true}
	}
	return all
}

// farInts are very great and very small; a few of them are units, or ids, if they are cut or wrap round.
func farInts() []int {
	found := []int{-1 << 20, 1 << 20}
	for _, base := range []int{least, 1 << 31, 1 << 32, 1 << 62, greatest} {
		for _, by := range []int{-1041, -1040, -1001, -1000, -999, -201, -200, -41, -40, -1, 0, 1, 40, 41, 200, 201, 999, 1000, 1001, 1040, 1041} {
			found = append(found, base+by, -(base + by))
		}
	}
	return slices.DeleteFunc(found, func(n int) bool { return n > -5000 && n < 5000 })
}

// precedes is what the terms say of two wants, word by word.
func precedes(a, b want) bool {
	if a.Share != b.Share {
		return a.Share > b.Share
	}
	return a.Unit < b.Unit
}

// sorted takes the wants out one by one, each time one that no other precedes.
func sorted(l []want) []want {
	rest := slices.Clone(l)
	var found []want
	for len(rest) > 0 {
		first := 0
		for i, w := range rest {
			if precedes(w, rest[first]) {
				first = i
			}
		}
		found = append(found, rest[first])
		rest = slices.Delete(rest, first, first+1)
	}
	return found
}

// checked is what P8.2 says of a list, word by word.
func checked(f int, l []want) api.Errno {
	if f < 2 || f > 64 {
		return api.ErrArg
	}
	all := units()
	for i, w := range l {
		if _, ok := all[w.Unit]; !ok {
			return api.ErrID
		}
		if w.Share < 1 || w.Share > f {
			return api.ErrShare
		}
		for _, earlier := range l[:i] {
			if earlier.Unit == w.Unit {
				return api.ErrTwice
			}
		}
	}
	return api.OK
}

// totalOf is the sum by numbers of any length; ErrOver if any partial one is no int.
func totalOf(l []want) (int, api.Errno) {
	sum := new(big.Int)
	for _, w := range l {
		sum.Add(sum, big.NewInt(int64(w.Share)))
		if !sum.IsInt64() {
			return 0, api.ErrOver
		}
	}
	return int(sum.Int64()), api.OK
}

func TestModels(t *testing.T) {
	l := wants(3, 2, 5, 7, 1, 2)
	if got := sorted(l); !slices.Equal(got, wants(5, 7, 1, 2, 3, 2)) {
		t.Error(got)
	}
	if checked(8, l) != api.OK || checked(6, l) != api.ErrShare || checked(65, l) != api.ErrArg || checked(8, wants(201, 1)) != api.ErrID || checked(8, wants(2, 1, 2, 2)) != api.ErrTwice {
		t.Error("checked")
	}
	if n, e := totalOf(l); n != 11 || e != api.OK {
		t.Error(n, e)
	}
	if n, e := totalOf(wants(1, greatest, 2, 1, 3, -1)); n != 0 || e != api.ErrOver {
		t.Error(n, e)
	}
	if len(units()) != 240 || len(farInts()) < 200 {
		t.Error(len(units()), len(farInts()))
	}
}

// someInt is near 0, near an end of what an int can be, or anywhere.
func someInt(r *rand.Rand) int {
	switch r.Intn(8) {
	case 0:
		return least + r.Intn(4)
	case 1:
		return greatest - r.Intn(4)
	case 2:
		return int(r.Uint64())
	}
	return r.Intn(8) - 3
}

// someWant has any unit and share: most of them none that may be.
func someWant(r *rand.Rand) want { return want{Unit: someInt(r), Share: someInt(r)} }

// someList has any wants, some of them more than once.
func someList(r *rand.Rand) []want {
	l := make([]want, r.Intn(12))
	for i := range l {
		l[i] = someWant(r)
		if i > 0 && r.Intn(5) == 0 {
			l[i] = l[r.Intn(i)]
		}
	}
	return l
}

// manyLists are random ones, a third of them sorted.
func manyLists(seed int64, n int) [][]want {
	r := rand.New(rand.NewSource(seed))
	found := make([][]want, n)
	for i := range found {
		found[i] = someList(r)
		if r.Intn(3) == 0 {
			found[i] = sorted(found[i])
		}
	}
	return found
}

// edgeWants are all whose unit and share are ends of what an int can be, or near 0.
func edgeWants() []want {
	edges := []int{least, least + 1, -2, -1, 0, 1, 2, greatest - 1, greatest}
	var all []want
	for _, unit := range edges {
		for _, share := range edges {
			all = append(all, want{Unit: unit, Share: share})
		}
	}
	return all
}

// fewLists are all lists of up to n of the wants of two units with two shares, in each order.
func fewLists(n int) [][]want {
	few := wants(1, 1, 1, 2, 2, 1, 2, 2)
	found := [][]want{nil}
	longest := found
	for range n {
		var longer [][]want
		for _, l := range longest {
			for _, w := range few {
				longer = append(longer, append(slices.Clone(l), w))
			}
		}
		found = append(found, longer...)
		longest = longer
	}
	return found
}

func checkUnit(t *testing.T, id int, group bool, unit int, e api.Errno) {
	t.Helper()
	if got, gotE := order.Unit(id, group); got != unit || gotE != e {
		t.Errorf("Unit(%d, %v): %d, %d; want %d, %d", id, group, got, gotE, unit, e)
	}
}

// TestKnownUnits holds P8.1 at the edges that it has.
func TestKnownUnits(t *testing.T) {
	for _, id := range []int{1, 2, 40, 41, 199, 200} {
		checkUnit(t, id, false, id, api.OK)
	}
	for _, id := range []int{1, 2, 39, 40} {
		checkUnit(t, id, true, 1000+id, api.OK)
	}
	for _, id := range []int{least, -1000, -1, 0, 201, 202, 1000, 1001, 1040, greatest} {
		checkUnit(t, id, false, 0, api.ErrID)
	}
	for _, id := range []int{least, -1000, -999, -960, -1, 0, 41, 42, 200, 201, 1000, 1001, 1040, greatest} {
		checkUnit(t, id, true, 0, api.ErrID)
	}
}

// TestUnit holds P8.1 for every id around those that there are, and for far ones.
func TestUnit(t *testing.T) {
	found := map[thing]int{}
	for unit, th := range units() {
		found[th] = unit
	}
	ids := farInts()
	for id := -3000; id <= 3000; id++ {
		ids = append(ids, id)
	}
	for _, id := range ids {
		for _, group := range []bool{false, true} {
			if unit, ok := found[thing{id, group}]; ok {
				checkUnit(t, id, group, unit, api.OK)
			} else {
				checkUnit(t, id, group, 0, api.ErrID)
			}
		}
	}
}

func checkKind(t *testing.T, unit, id int, group, ok bool) {
	t.Helper()
	if gotID, gotGroup, gotOK := order.Kind(unit); gotID != id || gotGroup != group || gotOK != ok {
		t.Errorf("Kind(%d): %d, %v, %v; want %d, %v, %v", unit, gotID, gotGroup, gotOK, id, group, ok)
	}
}

// TestKnownKinds holds P8.1 at the edges that it has.
func TestKnownKinds(t *testing.T) {
	for _, unit := range []int{1, 2, 40, 41, 199, 200} {
		checkKind(t, unit, unit, false, true)
	}
	checkKind(t, 1001, 1, true, true)
	checkKind(t, 1002, 2, true, true)
	checkKind(t, 1007, 7, true, true)
	checkKind(t, 1039, 39, true, true)
	checkKind(t, 1040, 40, true, true)
	for _, unit := range []int{least, -1001, -1000, -2, -1, 0, 201, 202, 960, 999, 1000, 1041, 1042, 1200, 2001, greatest} {
		checkKind(t, unit, 0, false, false)
	}
}

// TestKind holds P8.1 for every number around the units, and for far ones.
func TestKind(t *testing.T) {
	all := units()
	numbers := farInts()
	for unit := -5000; unit <= 5000; unit++ {
		numbers = append(numbers, unit)
	}
	for _, unit := range numbers {
		th, ok := all[unit]
		checkKind(t, unit, th.id, th.group, ok)
		if !ok {
			continue
		}
		checkUnit(t, th.id, th.group, unit, api.OK)
	}
}

func checkCheck(t *testing.T, f int, l []want, e api.Errno) {
	t.Helper()
	if got := order.Check(f, l...); got != e {
		t.Errorf("Check(%d, %v): %d; want %d", f, l, got, e)
	}
}

// TestCheckFrame holds P8.2 for frames: a wrong one comes before all that is wrong in the wants.
func TestCheckFrame(t *testing.T) {
	lists := [][]want{nil, wants(), wants(1, 1), wants(0, 0), wants(1, 65), wants(1, 1, 1, 1), wants(0, 1, 2, 0, 2, 2)}
	for _, f := range append(farInts(), least, -64, -2, -1, 0, 1, 65, 66, 128, greatest) {
		for _, l := range lists {
			checkCheck(t, f, l, api.ErrArg)
		}
	}
	for f := 2; f <= 64; f++ {
		checkCheck(t, f, nil, api.OK)
		checkCheck(t, f, wants(), api.OK)
		for share := -3; share <= 70; share++ {
			e := api.ErrShare
			if share >= 1 && share <= f {
				e = api.OK
			}
			for _, unit := range []int{1, 200, 1001, 1040} {
				checkCheck(t, f, wants(unit, share), e)
				checkCheck(t, f, wants(7, 1, unit, share, 8, 2), e)
			}
			checkCheck(t, f, wants(0, share), api.ErrID)
		}
		for _, share := range farInts() {
			checkCheck(t, f, wants(5, share), api.ErrShare)
		}
	}
}

func TestKnownChecks(t *testing.T) {
	type known struct {
		f int
		l []want
		e api.Errno
	}
	for _, k := range []known{
		{8, wants(1, 9), api.ErrShare},
		{8, wants(1, 8), api.OK},
		{2, wants(1, 2, 2, 1), api.OK},
		{64, wants(1, 64, 1001, 64), api.OK},
		// A task and the group of the same number are different units.
		{8, wants(1, 1, 1001, 1, 40, 2, 1040, 2), api.OK},
		// The shares together may be more than a frame has.
		{4, wants(3, 4, 2, 4, 1, 4), api.OK},
		// Units that are none.
		{8, wants(-1, 1), api.ErrID},
		{8, wants(0, 1), api.ErrID},
		{8, wants(201, 1), api.ErrID},
		{8, wants(999, 1), api.ErrID},
		{8, wants(1000, 1), api.ErrID},
		{8, wants(1041, 1), api.ErrID},
		{8, wants(least, 1), api.ErrID},
		{8, wants(greatest, 1), api.ErrID},
		{8, wants(1, 1, 2, 2, 0, 3), api.ErrID},
		// Shares below 1, and above the frame.
		{8, wants(1, 0), api.ErrShare},
		{8, wants(1, -1), api.ErrShare},
		{8, wants(1, least), api.ErrShare},
		{8, wants(1, greatest), api.ErrShare},
		{8, wants(1, 8, 2, 8, 3, 9), api.ErrShare},
		// The same unit twice, next to each other and far apart, with the same share and with another one.
		{8, wants(1, 2, 1, 2), api.ErrTwice},
		{8, wants(1, 2, 1, 3), api.ErrTwice},
		{8, wants(1001, 2, 1001, 2), api.ErrTwice},
		{8, wants(1, 2, 2, 2, 3, 2, 4, 2, 1, 2), api.ErrTwice},
		{8, wants(1, 2, 2, 2, 3, 2, 4, 2, 3, 1, 5, 1), api.ErrTwice},
		{8, wants(9, 1, 1040, 2, 3, 2, 1040, 8), api.ErrTwice},
		{8, wants(1, 1, 1, 1, 1, 1), api.ErrTwice},
		// More than one thing is wrong in one want: the unit comes first, then the share, then that it is there twice.
		{8, wants(0, 0), api.ErrID},
		{8, wants(201, 9), api.ErrID},
		{8, wants(1, 1, 1, 0), api.ErrShare},
		{8, wants(1, 1, 1, 9), api.ErrShare},
		// Several are wrong: the first one counts, whatever it has.
		{8, wants(1, 9, 0, 1), api.ErrShare},
		{8, wants(0, 1, 1, 9), api.ErrID},
		{8, wants(1, 1, 1, 1, 0, 1), api.ErrTwice},
		{8, wants(1, 1, 1, 1, 2, 9), api.ErrTwice},
		{8, wants(1, 1, 0, 1, 1, 1), api.ErrID},
		{8, wants(1, 1, 2, 9, 1, 1), api.ErrShare},
		{8, wants(0, 1, 0, 1), api.ErrID},
		{8, wants(1, 9, 1, 9), api.ErrShare},
	} {
		checkCheck(t, k.f, k.l, k.e)
	}
}

// TestCheck holds P8.2 for lists that are all right but for a few places, and for the longest ones that there are.
func TestCheck(t *testing.T) {
	r := rand.New(rand.NewSource(82))
	var all []int
	for unit := range units() {
		all = append(all, unit)
	}
	slices.Sort(all)
	for range 3000 {
		f := 2 + r.Intn(63)
		r.Shuffle(len(all), func(i, j int) { all[i], all[j] = all[j], all[i] })
		var l []want
		for _, unit := range all[:1+r.Intn(len(all))] {
			l = append(l, want{Unit: unit, Share: 1 + r.Intn(f)})
		}
		checkCheck(t, f, l, api.OK)
		for range 1 + r.Intn(3) {
			spoil(r, f, l)
		}
		checkCheck(t, f, l, checked(f, l))
	}
	// Longer than there are units, so one must be there twice.
	var l []want
	for range 1000 {
		for _, unit := range all {
			l = append(l, want{Unit: unit, Share: 1})
		}
	}
	checkCheck(t, 2, l[:240], api.OK)
	checkCheck(t, 2, l[:241], api.ErrTwice)
	checkCheck(t, 2, l, api.ErrTwice)
	l[240].Share = 3
	checkCheck(t, 2, l, api.ErrShare)
	l[240].Unit = 1041
	checkCheck(t, 2, l, api.ErrID)
}

// spoil has one of the wants be wrong, or, at times, be as right as before.
func spoil(r *rand.Rand, f int, l []want) {
	w := &l[r.Intn(len(l))]
	switch r.Intn(4) {
	case 0:
		w.Unit = []int{least, -1, 0, 201, 1000, 1041, greatest}[r.Intn(7)]
	case 1:
		w.Share = []int{least, -1, 0, f + 1, 65, greatest}[r.Intn(6)]
	default:
		w.Unit = l[r.Intn(len(l))].Unit
	}
}

// TestKnownAhead holds P8.3 for Ahead, and that the want that precedes is not preceded.
func TestKnownAhead(t *testing.T) {
	for _, pair := range [][]want{
		wants(5, 7, 3, 2),
		wants(5, 7, 9, 2),
		wants(1, 2, 3, 2),
		wants(3, 8, 3, 7),
		wants(200, 1, 1001, 1),
		wants(1040, 2, 1, 1),
		// Units and shares of any size; differences of these run over.
		wants(1, 0, 1, -1),
		wants(-1, 5, 0, 5),
		wants(0, greatest, 0, least),
		wants(greatest, greatest, least, least),
		wants(least, 0, greatest, 0),
		wants(least, greatest, greatest, greatest),
		wants(least, least, greatest, least),
		wants(greatest, least+1, least, least),
	} {
		if !order.Ahead(pair[0], pair[1]) || order.Ahead(pair[1], pair[0]) {
			t.Errorf("%v precedes %v: %v, %v", pair[0], pair[1], order.Ahead(pair[0], pair[1]), order.Ahead(pair[1], pair[0]))
		}
	}
	for _, w := range append(edgeWants(), wants(1, 1, 200, 64, 1001, 3)...) {
		if order.Ahead(w, w) {
			t.Errorf("%v precedes itself", w)
		}
	}
}

// TestTotalOrder holds P8.4: of two different wants exactly one precedes the other, and who precedes one that precedes a third precedes it too.
func TestTotalOrder(t *testing.T) {
	all := edgeWants()
	for _, a := range all {
		for _, b := range all {
			ahead, behind := order.Ahead(a, b), order.Ahead(b, a)
			if ahead != precedes(a, b) || a != b && ahead == behind || a == b && (ahead || behind) {
				t.Errorf("%v and %v: %v, %v", a, b, ahead, behind)
			}
			if !ahead {
				continue
			}
			for _, c := range all {
				if order.Ahead(b, c) && !order.Ahead(a, c) {
					t.Errorf("%v, %v, %v", a, b, c)
				}
			}
		}
	}
	r := rand.New(rand.NewSource(84))
	for range 50000 {
		a, b := someWant(r), someWant(r)
		if order.Ahead(a, b) != precedes(a, b) || a != b && order.Ahead(a, b) == order.Ahead(b, a) {
			t.Errorf("%v and %v: %v, %v", a, b, order.Ahead(a, b), order.Ahead(b, a))
		}
	}
}

func TestKnownSort(t *testing.T) {
	for _, k := range [][2][]want{
		{nil, nil},
		{wants(), nil},
		{wants(5, 3), wants(5, 3)},
		{wants(3, 2, 5, 7, 1, 2), wants(5, 7, 1, 2, 3, 2)},
		{wants(1, 1, 2, 2), wants(2, 2, 1, 1)},
		{wants(2, 2, 1, 1), wants(2, 2, 1, 1)},
		{wants(2, 2, 1, 2), wants(1, 2, 2, 2)},
		{wants(1001, 2, 200, 2), wants(200, 2, 1001, 2)},
		// Equal ones, and those of the same unit.
		{wants(4, 4, 4, 4), wants(4, 4, 4, 4)},
		{wants(4, 4, 7, 1, 4, 4, 9, 9, 4, 4), wants(9, 9, 4, 4, 4, 4, 4, 4, 7, 1)},
		{wants(4, 1, 4, 3, 4, 2), wants(4, 3, 4, 2, 4, 1)},
		// Units and shares of any size.
		{wants(0, 0, -1, 0, 0, -1, 0, 1), wants(0, 1, -1, 0, 0, 0, 0, -1)},
		{wants(0, least, 0, greatest, 0, 0), wants(0, greatest, 0, 0, 0, least)},
		{wants(greatest, 3, least, 3, 0, 3), wants(least, 3, 0, 3, greatest, 3)},
		{wants(least, least, greatest, least, greatest, greatest, least, greatest), wants(least, greatest, greatest, greatest, least, least, greatest, least)},
	} {
		if got := order.Sort(k[0]...); !slices.Equal(got, k[1]) {
			t.Errorf("Sort(%v): %v; want %v", k[0], got, k[1])
		}
	}
}

// TestSort holds P8.3 for Sort.
func TestSort(t *testing.T) {
	lists := append(manyLists(831, 20000), fewLists(5)...)
	lists = append(lists, edgeWants())
	for _, l := range lists {
		if got := order.Sort(l...); !slices.Equal(got, sorted(l)) {
			t.Errorf("Sort(%v): %v; want %v", l, got, sorted(l))
		}
	}
	// In whatever order they come.
	r := rand.New(rand.NewSource(832))
	l := edgeWants()
	first := sorted(l)
	for range 200 {
		r.Shuffle(len(l), func(i, j int) { l[i], l[j] = l[j], l[i] })
		if got := order.Sort(l...); !slices.Equal(got, first) {
			t.Fatalf("Sort(%v): %v", l, got)
		}
	}
}

func TestKnownPut(t *testing.T) {
	type known struct {
		l           []want
		unit, share int
		want        []want
	}
	row := wants(5, 7, 1, 2, 3, 2)
	for _, k := range []known{
		{nil, 4, 4, wants(4, 4)},
		{wants(), 4, 4, wants(4, 4)},
		{nil, 0, 0, wants(0, 0)},
		// Before the first, between two, and behind the last.
		{row, 4, 9, wants(4, 9, 5, 7, 1, 2, 3, 2)},
		{row, 4, 7, wants(4, 7, 5, 7, 1, 2, 3, 2)},
		{row, 6, 7, wants(5, 7, 6, 7, 1, 2, 3, 2)},
		{row, 9, 5, wants(5, 7, 9, 5, 1, 2, 3, 2)},
		{row, 2, 2, wants(5, 7, 1, 2, 2, 2, 3, 2)},
		{row, 4, 2, wants(5, 7, 1, 2, 3, 2, 4, 2)},
		{row, 1, 1, wants(5, 7, 1, 2, 3, 2, 1, 1)},
		{wants(5, 7), 6, 8, wants(6, 8, 5, 7)},
		{wants(5, 7), 6, 7, wants(5, 7, 6, 7)},
		// Beside equal ones, and with a unit that is there.
		{row, 5, 7, wants(5, 7, 5, 7, 1, 2, 3, 2)},
		{row, 1, 2, wants(5, 7, 1, 2, 1, 2, 3, 2)},
		{row, 3, 2, wants(5, 7, 1, 2, 3, 2, 3, 2)},
		{row, 3, 9, wants(3, 9, 5, 7, 1, 2, 3, 2)},
		{wants(4, 4, 4, 4), 4, 4, wants(4, 4, 4, 4, 4, 4)},
		// Into a list that is not sorted: it is sorted.
		{wants(3, 2, 5, 7, 1, 2), 2, 2, wants(5, 7, 1, 2, 2, 2, 3, 2)},
		{wants(1, 1, 2, 2), 3, 3, wants(3, 3, 2, 2, 1, 1)},
		{wants(1, 1, 3, 3), 2, 2, wants(3, 3, 2, 2, 1, 1)},
		{wants(2, 2, 3, 3), 1, 1, wants(3, 3, 2, 2, 1, 1)},
		{wants(4, 1, 5, 3, 4, 1), 5, 3, wants(5, 3, 5, 3, 4, 1, 4, 1)},
		// Units and shares of any size.
		{wants(0, greatest, 0, least), 0, 0, wants(0, greatest, 0, 0, 0, least)},
		{wants(least, 3, greatest, 3), 0, 3, wants(least, 3, 0, 3, greatest, 3)},
		{wants(0, 0), 0, greatest, wants(0, greatest, 0, 0)},
		{wants(0, 0), 0, least, wants(0, 0, 0, least)},
	} {
		w := want{Unit: k.unit, Share: k.share}
		if got := order.Put(k.l, w); !slices.Equal(got, k.want) {
			t.Errorf("Put(%v, %v): %v; want %v", k.l, w, got, k.want)
		}
	}
}

// put is what P8.3 says of a list and a want, word by word.
func put(l []want, w want) []want {
	l = sorted(l)
	for i, x := range l {
		if precedes(w, x) {
			return slices.Concat(l[:i], []want{w}, l[i:])
		}
	}
	return append(l, w)
}

// TestPut holds P8.3 for Put.
func TestPut(t *testing.T) {
	for _, l := range fewLists(4) {
		for _, w := range append(fewLists(1)[1:], wants(0, 1), wants(3, 2), wants(1, 0), wants(2, 3)) {
			if got := order.Put(l, w[0]); !slices.Equal(got, put(l, w[0])) {
				t.Errorf("Put(%v, %v): %v; want %v", l, w[0], got, put(l, w[0]))
			}
		}
	}
	r := rand.New(rand.NewSource(833))
	for _, l := range manyLists(834, 20000) {
		w := someWant(r)
		if len(l) > 0 && r.Intn(3) == 0 {
			w = l[r.Intn(len(l))]
		}
		if got := order.Put(l, w); !slices.Equal(got, put(l, w)) {
			t.Errorf("Put(%v, %v): %v; want %v", l, w, got, put(l, w))
		}
	}
}

// TestPutOneByOne holds P8.4: to put wants in one at a time yields a sorted list of them.
func TestPutOneByOne(t *testing.T) {
	lists := append(manyLists(841, 5000), fewLists(5)...)
	lists = append(lists, edgeWants())
	for _, l := range lists {
		var row []want
		for i, w := range l {
			row = order.Put(row, w)
			for at := 1; at < len(row); at++ {
				if order.Ahead(row[at], row[at-1]) {
					t.Errorf("%v precedes %v in %v", row[at], row[at-1], row)
				}
			}
			if len(row) != i+1 {
				t.Errorf("%d of %v: %v", i+1, l, row)
			}
		}
		if !slices.Equal(row, sorted(l)) || !slices.Equal(row, order.Sort(l...)) {
			t.Errorf("%v one by one: %v", l, row)
		}
	}
}

func TestKnownWithout(t *testing.T) {
	type known struct {
		l    []want
		unit int
		want []want
	}
	row := wants(5, 7, 1, 2, 3, 2)
	for _, k := range []known{
		{nil, 1, nil},
		{wants(), 0, nil},
		// Not there: neither as a unit nor as a share counts.
		{row, 4, row},
		{row, 2, row},
		{row, 0, row},
		{row, -1, row},
		{row, 7, row},
		{row, 1001, row},
		{row, least, row},
		{row, greatest, row},
		// There once, at each place.
		{row, 5, wants(1, 2, 3, 2)},
		{row, 1, wants(5, 7, 3, 2)},
		{row, 3, wants(5, 7, 1, 2)},
		// Alone.
		{wants(5, 7), 5, nil},
		{wants(5, 7, 5, 7), 5, nil},
		{wants(5, 7, 5, 1, 5, 3), 5, nil},
		// More than once, and in the order they had, sorted or not.
		{wants(5, 7, 1, 2, 5, 7), 5, wants(1, 2)},
		{wants(5, 1, 5, 9, 1, 2, 5, 7, 9, 9, 0, 3), 5, wants(1, 2, 9, 9, 0, 3)},
		{wants(3, 2, 5, 7, 1, 2, 5, 7, 3, 2), 5, wants(3, 2, 1, 2, 3, 2)},
		{wants(1, 1, 2, 2, 3, 3, 4, 4), 3, wants(1, 1, 2, 2, 4, 4)},
		// Units and shares of any size.
		{wants(least, 1, 0, 0, greatest, least), least, wants(0, 0, greatest, least)},
		{wants(least, 1, 0, 0, greatest, least), greatest, wants(least, 1, 0, 0)},
		{wants(least, 1, 0, 0, greatest, least), 0, wants(least, 1, greatest, least)},
	} {
		if got := order.Without(k.l, k.unit); !slices.Equal(got, k.want) {
			t.Errorf("Without(%v, %d): %v; want %v", k.l, k.unit, got, k.want)
		}
	}
}

// TestWithout holds P8.3 for Without.
func TestWithout(t *testing.T) {
	r := rand.New(rand.NewSource(835))
	for _, l := range append(manyLists(836, 20000), fewLists(5)...) {
		unit := someInt(r)
		if len(l) > 0 && r.Intn(2) == 0 {
			unit = l[r.Intn(len(l))].Unit
		}
		var rest []want
		for _, w := range l {
			if w.Unit != unit {
				rest = append(rest, w)
			}
		}
		if got := order.Without(l, unit); !slices.Equal(got, rest) {
			t.Errorf("Without(%v, %d): %v; want %v", l, unit, got, rest)
		}
	}
}

func checkTotal(t *testing.T, l []want, n int, e api.Errno) {
	t.Helper()
	if got, gotE := order.Total(l...); got != n || gotE != e {
		t.Errorf("Total(%v): %d, %d; want %d, %d", l, got, gotE, n, e)
	}
}

func TestKnownTotals(t *testing.T) {
	type known struct {
		shares []int
		n      int
		e      api.Errno
	}
	for _, k := range []known{
		{nil, 0, api.OK},
		{[]int{0}, 0, api.OK},
		{[]int{5}, 5, api.OK},
		{[]int{2, 7, 2}, 11, api.OK},
		// Shares below 0.
		{[]int{-5}, -5, api.OK},
		{[]int{2, -7, 2}, -3, api.OK},
		{[]int{-1, 1}, 0, api.OK},
		// The ends of what an int can be.
		{[]int{greatest}, greatest, api.OK},
		{[]int{least}, least, api.OK},
		{[]int{greatest, 0, 0}, greatest, api.OK},
		{[]int{least, 0, 0}, least, api.OK},
		{[]int{greatest - 1, 1}, greatest, api.OK},
		{[]int{least + 1, -1}, least, api.OK},
		{[]int{greatest, least}, -1, api.OK},
		{[]int{least, greatest}, -1, api.OK},
		{[]int{greatest, least, greatest, 1, least}, -1, api.OK},
		{[]int{greatest, 1}, 0, api.ErrOver},
		{[]int{1, greatest}, 0, api.ErrOver},
		{[]int{least, -1}, 0, api.ErrOver},
		{[]int{-1, least}, 0, api.ErrOver},
		{[]int{greatest, greatest}, 0, api.ErrOver},
		{[]int{least, least}, 0, api.ErrOver},
		{[]int{1 << 62, 1 << 62}, 0, api.ErrOver},
		{[]int{-1 << 62, -1 << 62}, least, api.OK},
		// A partial sum runs over, though the whole does not; in another order none does.
		{[]int{greatest, 1, -1}, 0, api.ErrOver},
		{[]int{greatest, -1, 1}, greatest, api.OK},
		{[]int{-1, 1, greatest}, greatest, api.OK},
		{[]int{least, -1, 1}, 0, api.ErrOver},
		{[]int{least, 1, -1}, least, api.OK},
		{[]int{1, -1, least}, least, api.OK},
		{[]int{greatest, greatest, least, least}, 0, api.ErrOver},
		{[]int{least, least, greatest, greatest}, 0, api.ErrOver},
		{[]int{5, greatest, least}, 0, api.ErrOver},
		{[]int{5, least, greatest}, 4, api.OK},
		{[]int{greatest, 1, -5, 7, 9}, 0, api.ErrOver},
		// Four times a quarter of all numbers is 0 to a word.
		{[]int{1 << 62, 1 << 62, 1 << 62, 1 << 62}, 0, api.ErrOver},
	} {
		var l []want
		for i, share := range k.shares {
			l = append(l, want{Unit: greatest - i, Share: share})
		}
		checkTotal(t, l, k.n, k.e)
	}
	checkTotal(t, wants(3, 2, 5, 7, 1, 2), 11, api.OK)
	checkTotal(t, wants(3, 2, 3, 2), 4, api.OK)
}

// TestTotal holds P8.3 for Total.
func TestTotal(t *testing.T) {
	for _, l := range append(manyLists(837, 20000), fewLists(4)...) {
		n, e := totalOf(l)
		checkTotal(t, l, n, e)
	}
	for _, a := range edgeWants() {
		for _, b := range edgeWants() {
			for _, c := range wants(1, 1, 1, -1) {
				l := []want{a, b, c}
				n, e := totalOf(l)
				checkTotal(t, l, n, e)
			}
		}
	}
}

// TestManyWants holds P8.3 for long lists.
func TestManyWants(t *testing.T) {
	const n = 30000
	var row []want
	for x := range n {
		row = append(row, want{Unit: x % 100, Share: (n - x) / 100})
	}
	mixed := slices.Clone(row)
	r := rand.New(rand.NewSource(838))
	r.Shuffle(n, func(i, j int) { mixed[i], mixed[j] = mixed[j], mixed[i] })
	got := order.Sort(mixed...)
	for i := 1; i < n; i++ {
		if precedes(got[i], got[i-1]) {
			t.Fatalf("%v behind %v", got[i], got[i-1])
		}
	}
	count := map[want]int{}
	for i := range n {
		count[row[i]]++
		count[got[i]]--
	}
	for w, c := range count {
		if c != 0 {
			t.Fatalf("%v: %d", w, c)
		}
	}
	if longer := order.Put(mixed, want{Unit: 50, Share: 1000}); len(longer) != n+1 || longer[0].Share != 1000 || !slices.Equal(longer[1:], got) {
		t.Error("Put")
	}
	if rest := order.Without(mixed, 7); len(rest) != n-n/100 || slices.ContainsFunc(rest, func(w want) bool { return w.Unit == 7 }) {
		t.Error("Without", len(rest))
	}
	total, _ := totalOf(row)
	checkTotal(t, mixed, total, api.OK)
}

// withSpare is a list behind which, in the same memory, other wants lie.
func withSpare(l []want) []want {
	return append(append(make([]want, 0, len(l)+3), l...), wants(70, 71, 80, 82, 1, 93)...)[:len(l)]
}

// whole is a list with what lies behind it.
func whole(l []want) []want { return l[:cap(l)] }

// TestArgumentsStay holds the rule on memory: arguments, and what lies behind them, stay; results are new.
func TestArgumentsStay(t *testing.T) {
	calls := map[string]func(l []want) []want{
		"Sort":          func(l []want) []want { return order.Sort(l...) },
		"Put first":     func(l []want) []want { return order.Put(l, want{Unit: 1, Share: 99}) },
		"Put inside":    func(l []want) []want { return order.Put(l, want{Unit: 2, Share: 5}) },
		"Put last":      func(l []want) []want { return order.Put(l, want{Unit: 9, Share: -1}) },
		"Without one":   func(l []want) []want { return order.Without(l, 1) },
		"Without first": func(l []want) []want { return order.Without(l, 5) },
		"Without none":  func(l []want) []want { return order.Without(l, 4) },
		"none": func(l []want) []want {
			order.Check(64, l...)
			order.Total(l...)
			return nil
		},
	}
	lists := [][]want{nil, wants(1, 1), wants(5, 7), wants(5, 7, 1, 2, 3, 2), wants(3, 2, 5, 7, 1, 2), wants(1, 2, 5, 7, 1, 2, 5, 8)}
	for name, call := range calls {
		for _, l := range lists {
			checkMemory(t, name, call, withSpare(l))
			checkMemory(t, name, call, slices.Clip(slices.Clone(l)))
		}
	}
}

// checkMemory changes all that a call answered, and looks whether anything else did so.
func checkMemory(t *testing.T, name string, call func(l []want) []want, l []want) {
	t.Helper()
	old := slices.Clone(whole(l))
	first, second := call(l), call(l)
	kept := slices.Clone(second)
	for i := range whole(first) {
		whole(first)[i] = want{Unit: -7, Share: 77}
	}
	if !slices.Equal(whole(l), old) {
		t.Errorf("%s of %v: the argument is %v", name, old, whole(l))
	}
	if !slices.Equal(second, kept) || !slices.Equal(call(l), kept) {
		t.Errorf("%s of %v: two results share memory", name, old)
	}
	for i := range whole(l) {
		whole(l)[i] = want{Unit: -8, Share: 88}
	}
	if !slices.Equal(second, kept) {
		t.Errorf("%s of %v: the result is %v once the argument changes", name, old, second)
	}
}
