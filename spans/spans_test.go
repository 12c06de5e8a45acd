package spans_test

import (
	"math"
	"math/big"
	"math/rand"
	"slices"
	"testing"

	"dogwatch/api"
	"dogwatch/spans"
)

const (
	least    = math.MinInt
	greatest = math.MaxInt
)

type span = spans.Span

// row is a list of spans of these ends, two by two.
func row(ends ...int) []span {
	var l []span
	for i := 0; i < len(ends); i += 2 {
		l = append(l, span{From: ends[i], To: ends[i+1]})
	}
	return l
}

// A set says of each number whether it has it: what the results are held against.
type set func(x int) bool

// setOf has what some span of a list has.
func setOf(l []span) set {
	return func(x int) bool {
		for _, s := range l {
			if x >= s.From && x < s.To {
				return true
			}
		}
		return false
	}
}

// rowOf is the normal list of a set that changes nowhere but at ends of the lists, by the stretches between one end and the next.
func rowOf(in set, lists ...[]span) []span {
	var ends []int
	for _, l := range lists {
		for _, s := range l {
			ends = append(ends, s.From, s.To)
		}
	}
	slices.Sort(ends)
	ends = slices.Compact(ends)
	var want []span
	open := false
	for i, x := range ends {
		inside := i+1 < len(ends) && in(x)
		if inside && !open {
			want = append(want, span{From: x})
		}
		if open && !inside {
			want[len(want)-1].To = x
		}
		open = inside
	}
	return want
}

// totalOf is how many numbers a normal list has, by numbers of any length.
func totalOf(normal []span) uint64 {
	sum := new(big.Int)
	for _, s := range normal {
		sum.Add(sum, big.NewInt(int64(s.To)))
		sum.Sub(sum, big.NewInt(int64(s.From)))
	}
	return sum.Uint64()
}

func TestRowOf(t *testing.T) {
	l := row(4, 6, 1, 3, 3, 4, 9, 9, 8, 7)
	if got := rowOf(setOf(l), l); !slices.Equal(got, row(1, 6)) || totalOf(got) != 5 {
		t.Error(got)
	}
	b := row(least, -1, 1, greatest)
	in := func(x int) bool { return !setOf(b)(x) }
	if got := rowOf(in, b, row(least, greatest)); !slices.Equal(got, row(-1, 1)) {
		t.Error(got)
	}
	if totalOf(row(least, greatest)) != math.MaxUint64 || totalOf(b) != math.MaxUint64-2 {
		t.Error("totalOf")
	}
	if rowOf(setOf(nil)) != nil || totalOf(nil) != 0 {
		t.Error("nothing")
	}
	// Number by number, against the whole of a few.
	for _, l := range lists(0, 3, 2) {
		want := rowOf(setOf(l), l)
		for x := -1; x <= 4; x++ {
			if setOf(want)(x) != setOf(l)(x) {
				t.Errorf("%v of %v at %d", want, l, x)
			}
		}
	}
}

// lists are all of up to n spans, whose ends are from first to last.
func lists(first, last, n int) [][]span {
	var all []span
	for from := first; from <= last; from++ {
		for to := first; to <= last; to++ {
			all = append(all, span{From: from, To: to})
		}
	}
	return listsOf(all, n)
}

// listsOf are all of up to n of these spans, in each order.
func listsOf(all []span, n int) [][]span {
	found := [][]span{nil}
	longest := [][]span{nil}
	for range n {
		var longer [][]span
		for _, l := range longest {
			for _, s := range all {
				longer = append(longer, append(slices.Clone(l), s))
			}
		}
		found = append(found, longer...)
		longest = longer
	}
	return found
}

// edgeInts are the ends of what an int can be, and some between them.
func edgeInts() []int {
	return []int{least, least + 1, -2, -1, 0, 1, 2, greatest - 1, greatest}
}

// edgeLists are all of up to two spans with the ends of what an int can be.
func edgeLists() [][]span {
	var all []span
	for _, from := range edgeInts() {
		for _, to := range edgeInts() {
			all = append(all, span{From: from, To: to})
		}
	}
	return listsOf(all, 2)
}

// someInt is near 0, near an end of what an int can be, or anywhere.
func someInt(r *rand.Rand) int {
	switch r.Intn(8) {
	case 0:
		return least + r.Intn(4)
	case 1:
		return greatest - r.Intn(4)
	case 2:
		return int(r.Uint64())
	}
	return r.Intn(40) - 20
}

// someList is any, or, at times, a normal one, or one whose spans are few and near each other.
func someList(r *rand.Rand) []span {
	l := make([]span, r.Intn(9))
	for i := range l {
		l[i] = span{From: someInt(r), To: someInt(r)}
		if r.Intn(2) == 0 {
			l[i].To = l[i].From + r.Intn(7) - 1
		}
		if i > 0 && r.Intn(6) == 0 {
			l[i] = l[r.Intn(i)]
		}
		if i > 0 && r.Intn(6) == 0 {
			l[i].From = l[i-1].To
		}
	}
	if r.Intn(3) == 0 {
		return rowOf(setOf(l), l)
	}
	return l
}

// manyLists are random ones.
func manyLists(seed int64, n int) [][]span {
	r := rand.New(rand.NewSource(seed))
	found := make([][]span, n)
	for i := range found {
		found[i] = someList(r)
	}
	return found
}

func TestKnownLists(t *testing.T) {
	type known struct {
		l      []span
		normal []span
		total  uint64
	}
	for i, k := range []known{
		{nil, nil, 0},
		{row(), row(), 0},
		// Spans without numbers.
		{row(5, 5), nil, 0},
		{row(5, 4), nil, 0},
		{row(0, 0), nil, 0},
		{row(9, -9), nil, 0},
		{row(least, least), nil, 0},
		{row(greatest, greatest), nil, 0},
		{row(greatest, least), nil, 0},
		{row(5, 4, 9, 9, 7, 1), nil, 0},
		{row(1, 3, 2, 2), row(1, 3), 2},
		{row(1, 3, 3, 3), row(1, 3), 2},
		{row(1, 3, 1, 1), row(1, 3), 2},
		{row(1, 1, 1, 3), row(1, 3), 2},
		{row(1, 3, 6, 6), row(1, 3), 2},
		{row(1, 3, 5, 5, 7, 9), row(1, 3, 7, 9), 4},
		{row(1, 3, 5, 4, 7, 9), row(1, 3, 7, 9), 4},
		{row(1, 3, 9, 0, 7, 9), row(1, 3, 7, 9), 4},
		{row(3, 3, 1, 3, 3, 5, 5, 5), row(1, 5), 4},
		// Spans that are one beside the other, one in another, twice, and out of order.
		{row(1, 2), row(1, 2), 1},
		{row(1, 2, 3, 4), row(1, 2, 3, 4), 2},
		{row(1, 2, 2, 3), row(1, 3), 2},
		{row(2, 3, 1, 2), row(1, 3), 2},
		{row(1, 2, 2, 3, 3, 4), row(1, 4), 3},
		{row(1, 5, 3, 8), row(1, 8), 7},
		{row(3, 8, 1, 5), row(1, 8), 7},
		{row(1, 9, 3, 5), row(1, 9), 8},
		{row(3, 5, 1, 9), row(1, 9), 8},
		{row(1, 9, 3, 5, 6, 7, 8, 10), row(1, 10), 9},
		{row(1, 9, 3, 5, 9, 10), row(1, 10), 9},
		{row(1, 9, 3, 5, 10, 11), row(1, 9, 10, 11), 9},
		{row(1, 9, 1, 5), row(1, 9), 8},
		{row(1, 5, 1, 9), row(1, 9), 8},
		{row(1, 9, 5, 9), row(1, 9), 8},
		{row(1, 4, 1, 4), row(1, 4), 3},
		{row(1, 4, 6, 7, 1, 4, 6, 7), row(1, 4, 6, 7), 4},
		{row(6, 7, 1, 4), row(1, 4, 6, 7), 4},
		{row(8, 9, 6, 7, 4, 5), row(4, 5, 6, 7, 8, 9), 3},
		{row(4, 6, 1, 3, 3, 4, 9, 9), row(1, 6), 5},
		{row(2, 4, 8, 12), row(2, 4, 8, 12), 6},
		{row(-3, -1, 0, 2), row(-3, -1, 0, 2), 4},
		{row(-3, 0, 0, 2), row(-3, 2), 5},
		// The ends of what an int can be.
		{row(least, least+1), row(least, least+1), 1},
		{row(greatest-1, greatest), row(greatest-1, greatest), 1},
		{row(least, least+1, greatest-1, greatest), row(least, least+1, greatest-1, greatest), 2},
		{row(greatest-1, greatest, least, least+1), row(least, least+1, greatest-1, greatest), 2},
		{row(least, 0), row(least, 0), 1 << 63},
		{row(0, greatest), row(0, greatest), 1<<63 - 1},
		{row(least, greatest), row(least, greatest), 1<<64 - 1},
		{row(least, 0, 0, greatest), row(least, greatest), 1<<64 - 1},
		{row(0, greatest, least, 0), row(least, greatest), 1<<64 - 1},
		{row(least, 0, 1, greatest), row(least, 0, 1, greatest), 1<<64 - 2},
		{row(least, 5, -5, greatest), row(least, greatest), 1<<64 - 1},
		{row(least, greatest, least, greatest), row(least, greatest), 1<<64 - 1},
		{row(least, greatest, least, least, greatest, greatest, greatest, least), row(least, greatest), 1<<64 - 1},
		{row(least+1, greatest), row(least+1, greatest), 1<<64 - 2},
		{row(least, greatest-1), row(least, greatest-1), 1<<64 - 2},
	} {
		if got := spans.Norm(k.l...); !slices.Equal(got, k.normal) {
			t.Errorf("%d: Norm(%v): %v; want %v", i, k.l, got, k.normal)
		}
		if got := spans.Total(k.l...); got != k.total {
			t.Errorf("%d: Total(%v): %d; want %d", i, k.l, got, k.total)
		}
		want := api.OK
		if !slices.Equal(k.l, k.normal) {
			want = api.ErrArg
		}
		if got := spans.Check(k.l...); got != want {
			t.Errorf("%d: Check(%v): %d; want %d", i, k.l, got, want)
		}
	}
}

func TestKnownChecks(t *testing.T) {
	type known struct {
		l    []span
		want api.Errno
	}
	for i, k := range []known{
		{nil, api.OK},
		{row(), api.OK},
		{row(1, 2), api.OK},
		{row(1, 2, 3, 4), api.OK},
		{row(1, 2, 3, 9, 10, 11), api.OK},
		{row(-9, -8, -7, 0, 1, 2), api.OK},
		{row(least, greatest), api.OK},
		{row(least, least+1, least+2, greatest), api.OK},
		{row(least, 0, 1, greatest), api.OK},
		{row(1, 2, 2, 3), api.ErrArg},
		{row(1, 2, 4, 5, 5, 6), api.ErrArg},
		{row(1, 3, 2, 4), api.ErrArg},
		{row(1, 9, 3, 5), api.ErrArg},
		{row(3, 4, 1, 2), api.ErrArg},
		{row(1, 2, 1, 2), api.ErrArg},
		{row(1, 1), api.ErrArg},
		{row(1, 0), api.ErrArg},
		{row(1, 2, 4, 4), api.ErrArg},
		{row(1, 2, 4, 3), api.ErrArg},
		{row(1, 1, 3, 4), api.ErrArg},
		{row(1, 0, 3, 4), api.ErrArg},
		{row(1, 2, 4, 4, 6, 7), api.ErrArg},
		{row(1, 2, 5, 3, 6, 7), api.ErrArg},
		{row(least, least), api.ErrArg},
		{row(greatest, greatest), api.ErrArg},
		{row(greatest, least), api.ErrArg},
		{row(least, 0, greatest, greatest), api.ErrArg},
		{row(least, 0, greatest, least), api.ErrArg},
		{row(least, greatest, greatest, greatest), api.ErrArg},
		{row(0, greatest, least, 0), api.ErrArg},
	} {
		if got := spans.Check(k.l...); got != k.want {
			t.Errorf("%d: Check(%v): %d; want %d", i, k.l, got, k.want)
		}
	}
}

// isNormal is what the terms say of a list, word by word.
func isNormal(l []span) bool {
	for i, s := range l {
		if !(s.From < s.To) {
			return false
		}
		if i > 0 && !(s.From > l[i-1].To) {
			return false
		}
	}
	return true
}

// checkOne holds P5.1 for one list, but for Has.
func checkOne(t *testing.T, l []span) {
	t.Helper()
	want := api.ErrArg
	if isNormal(l) {
		want = api.OK
	}
	if got := spans.Check(l...); got != want {
		t.Errorf("Check(%v): %d; want %d", l, got, want)
	}
	normal := rowOf(setOf(l), l)
	if got := spans.Norm(l...); !slices.Equal(got, normal) {
		t.Errorf("Norm(%v): %v; want %v", l, got, normal)
	}
	if got := spans.Total(l...); got != totalOf(normal) {
		t.Errorf("Total(%v): %d; want %d", l, got, totalOf(normal))
	}
}

// TestCheckNormAndTotal hold P5.1.
func TestCheckNormAndTotal(t *testing.T) {
	for _, l := range lists(0, 4, 3) {
		checkOne(t, l)
	}
	for _, l := range edgeLists() {
		checkOne(t, l)
	}
	for _, l := range manyLists(1, 20000) {
		checkOne(t, l)
	}
}

// TestNormIsOne holds the terms beside P5.1: a normal list is its own, and the order of the spans is nothing to it.
func TestNormIsOne(t *testing.T) {
	r := rand.New(rand.NewSource(2))
	for _, l := range manyLists(3, 5000) {
		normal := spans.Norm(l...)
		if spans.Check(normal...) != api.OK || !slices.Equal(spans.Norm(normal...), normal) {
			t.Errorf("Norm(%v): %v, and its own: %v", l, normal, spans.Norm(normal...))
		}
		other := slices.Clone(l)
		r.Shuffle(len(other), func(i, j int) { other[i], other[j] = other[j], other[i] })
		if !slices.Equal(spans.Norm(other...), normal) {
			t.Errorf("Norm(%v): %v; Norm(%v): %v", l, normal, other, spans.Norm(other...))
		}
	}
}

func TestKnownHas(t *testing.T) {
	type known struct {
		l    []span
		x    int
		want bool
	}
	b := row(2, 4, 8, 12)
	for i, k := range []known{
		{nil, 0, false},
		{nil, least, false},
		{nil, greatest, false},
		{b, 1, false},
		{b, 2, true},
		{b, 3, true},
		{b, 4, false},
		{b, 7, false},
		{b, 8, true},
		{b, 11, true},
		{b, 12, false},
		{b, least, false},
		{b, greatest, false},
		// Lists that are not normal.
		{row(8, 12, 2, 4), 3, true},
		{row(8, 12, 2, 4), 9, true},
		{row(8, 12, 2, 4), 5, false},
		{row(1, 9, 3, 5), 7, true},
		{row(1, 9, 3, 5), 4, true},
		{row(1, 3, 3, 5), 3, true},
		{row(5, 5), 5, false},
		{row(5, 4), 4, false},
		{row(5, 4), 5, false},
		{row(9, 1), 5, false},
		{row(9, 1, 4, 6), 5, true},
		// The ends of what an int can be.
		{row(least, greatest), least, true},
		{row(least, greatest), greatest - 1, true},
		{row(least, greatest), greatest, false},
		{row(least, least+1), least, true},
		{row(least, least+1), least + 1, false},
		{row(least, least), least, false},
		{row(greatest-1, greatest), greatest - 2, false},
		{row(greatest-1, greatest), greatest - 1, true},
		{row(greatest-1, greatest), greatest, false},
		{row(greatest, greatest), greatest, false},
		{row(greatest, least), greatest, false},
		{row(greatest, least), least, false},
		{row(greatest, least), 0, false},
	} {
		if got := spans.Has(k.l, k.x); got != k.want {
			t.Errorf("%d: Has(%v, %d): %v; want %v", i, k.l, k.x, got, k.want)
		}
	}
}

// TestHas holds P5.1 for Has.
func TestHas(t *testing.T) {
	for _, l := range lists(0, 3, 3) {
		for x := -1; x <= 4; x++ {
			if got := spans.Has(l, x); got != setOf(l)(x) {
				t.Errorf("Has(%v, %d): %v", l, x, got)
			}
		}
	}
	for _, l := range append(edgeLists(), manyLists(4, 5000)...) {
		for _, x := range probes(l) {
			if got := spans.Has(l, x); got != setOf(l)(x) {
				t.Errorf("Has(%v, %d): %v", l, x, got)
			}
		}
	}
}

// probes are the ends of a list and those of what an int can be, and the numbers beside them.
func probes(l []span) []int {
	found := edgeInts()
	for _, s := range l {
		found = append(found, s.From-1, s.From, s.From+1, s.To-1, s.To, s.To+1)
	}
	return found
}

func TestKnownPairs(t *testing.T) {
	type known struct {
		a, b, union, meet, less []span
	}
	whole := row(least, greatest)
	for i, k := range []known{
		{nil, nil, nil, nil, nil},
		{row(0, 9), nil, row(0, 9), nil, row(0, 9)},
		{nil, row(0, 9), row(0, 9), nil, nil},
		{row(0, 9), row(2, 4, 8, 12), row(0, 12), row(2, 4, 8, 9), row(0, 2, 4, 8)},
		{row(2, 4, 8, 12), row(0, 9), row(0, 12), row(2, 4, 8, 9), row(9, 12)},
		{row(0, 9), row(0, 9), row(0, 9), row(0, 9), nil},
		{row(0, 9), row(3, 5), row(0, 9), row(3, 5), row(0, 3, 5, 9)},
		{row(3, 5), row(0, 9), row(0, 9), row(3, 5), nil},
		{row(0, 9), row(0, 5), row(0, 9), row(0, 5), row(5, 9)},
		{row(0, 9), row(5, 9), row(0, 9), row(5, 9), row(0, 5)},
		{row(0, 9), row(9, 12), row(0, 12), nil, row(0, 9)},
		{row(9, 12), row(0, 9), row(0, 12), nil, row(9, 12)},
		{row(0, 9), row(10, 12), row(0, 9, 10, 12), nil, row(0, 9)},
		{row(10, 12), row(0, 9), row(0, 9, 10, 12), nil, row(10, 12)},
		{row(0, 9), row(8, 12), row(0, 12), row(8, 9), row(0, 8)},
		{row(0, 3, 6, 9), row(2, 7), row(0, 9), row(2, 3, 6, 7), row(0, 2, 7, 9)},
		{row(0, 3, 6, 9), row(3, 6), row(0, 9), nil, row(0, 3, 6, 9)},
		{row(0, 3, 6, 9), row(1, 2, 7, 8), row(0, 3, 6, 9), row(1, 2, 7, 8), row(0, 1, 2, 3, 6, 7, 8, 9)},
		{row(0, 1, 2, 3, 4, 5), row(1, 2, 3, 4), row(0, 5), nil, row(0, 1, 2, 3, 4, 5)},
		// Lists that are not normal: on the left, on the right, and on both sides.
		{row(5, 9, 0, 5, 7, 7), row(2, 4, 8, 12), row(0, 12), row(2, 4, 8, 9), row(0, 2, 4, 8)},
		{row(0, 9), row(8, 12, 9, 9, 2, 4, 3, 4), row(0, 12), row(2, 4, 8, 9), row(0, 2, 4, 8)},
		{row(5, 9, 0, 5, 7, 7), row(8, 12, 9, 9, 2, 4, 3, 4), row(0, 12), row(2, 4, 8, 9), row(0, 2, 4, 8)},
		{row(0, 9, 0, 9), row(0, 9, 0, 9), row(0, 9), row(0, 9), nil},
		{row(0, 9), row(5, 5), row(0, 9), nil, row(0, 9)},
		{row(0, 9), row(6, 3), row(0, 9), nil, row(0, 9)},
		{row(5, 5), row(0, 9), row(0, 9), nil, nil},
		{row(6, 3), row(0, 9), row(0, 9), nil, nil},
		{row(5, 5), row(5, 5), nil, nil, nil},
		{row(0, 4, 4, 9), row(4, 4), row(0, 9), nil, row(0, 9)},
		{row(0, 5, 5, 9), row(4, 5, 5, 6), row(0, 9), row(4, 6), row(0, 4, 6, 9)},
		// The ends of what an int can be.
		{whole, nil, whole, nil, whole},
		{nil, whole, whole, nil, nil},
		{whole, whole, whole, whole, nil},
		{whole, row(0, 1), whole, row(0, 1), row(least, 0, 1, greatest)},
		{whole, row(least, least+1), whole, row(least, least+1), row(least+1, greatest)},
		{whole, row(greatest-1, greatest), whole, row(greatest-1, greatest), row(least, greatest-1)},
		{whole, row(greatest, greatest), whole, nil, whole},
		{whole, row(least, least), whole, nil, whole},
		{whole, row(greatest, least), whole, nil, whole},
		{row(least, 0), row(0, greatest), whole, nil, row(least, 0)},
		{row(0, greatest), row(least, 0), whole, nil, row(0, greatest)},
		{row(least, 1), row(-1, greatest), whole, row(-1, 1), row(least, -1)},
		{row(least, least+1, greatest-1, greatest), row(least+1, greatest-1), whole, nil, row(least, least+1, greatest-1, greatest)},
	} {
		if got := spans.Union(k.a, k.b); !slices.Equal(got, k.union) {
			t.Errorf("%d: Union(%v, %v): %v; want %v", i, k.a, k.b, got, k.union)
		}
		if got := spans.Meet(k.a, k.b); !slices.Equal(got, k.meet) {
			t.Errorf("%d: Meet(%v, %v): %v; want %v", i, k.a, k.b, got, k.meet)
		}
		if got := spans.Less(k.a, k.b); !slices.Equal(got, k.less) {
			t.Errorf("%d: Less(%v, %v): %v; want %v", i, k.a, k.b, got, k.less)
		}
	}
}

// checkPair holds P5.2 and P5.3 for two lists.
func checkPair(t *testing.T, a, b []span) {
	t.Helper()
	inA, inB := setOf(a), setOf(b)
	union := rowOf(func(x int) bool { return inA(x) || inB(x) }, a, b)
	if got := spans.Union(a, b); !slices.Equal(got, union) {
		t.Errorf("Union(%v, %v): %v; want %v", a, b, got, union)
	}
	both := rowOf(func(x int) bool { return inA(x) && inB(x) }, a, b)
	meet := spans.Meet(a, b)
	if !slices.Equal(meet, both) {
		t.Errorf("Meet(%v, %v): %v; want %v", a, b, meet, both)
	}
	one := rowOf(func(x int) bool { return inA(x) && !inB(x) }, a, b)
	less := spans.Less(a, b)
	if !slices.Equal(less, one) {
		t.Errorf("Less(%v, %v): %v; want %v", a, b, less, one)
	}
	if spans.Check(meet...) != api.OK || spans.Check(less...) != api.OK || spans.Check(spans.Union(a, b)...) != api.OK {
		t.Errorf("%v and %v: a result is not normal", a, b)
	}
	if len(spans.Meet(meet, less)) > 0 || spans.Total(meet...)+spans.Total(less...) != spans.Total(a...) {
		t.Errorf("%v and %v: Meet %v and Less %v are not disjoint", a, b, meet, less)
	}
	if back := spans.Union(meet, less); !slices.Equal(back, spans.Norm(a...)) {
		t.Errorf("%v and %v: Meet and Less together: %v", a, b, back)
	}
}

// TestPairs holds P5.2, but for Gaps, and P5.3.
func TestPairs(t *testing.T) {
	few := lists(0, 2, 2)
	for _, a := range few {
		for _, b := range few {
			checkPair(t, a, b)
		}
	}
	// Normal lists of up to three spans, which meet in all ways.
	var normal [][]span
	for m := range 1 << 7 {
		l := row()
		for x := range 7 {
			if m>>x&1 == 1 {
				l = append(l, span{From: x, To: x + 1})
			}
		}
		normal = append(normal, rowOf(setOf(l), l))
	}
	for _, a := range normal {
		for _, b := range normal {
			checkPair(t, a, b)
		}
	}
	some, others := manyLists(5, 20000), manyLists(6, 20000)
	for i, a := range some {
		checkPair(t, a, others[i])
	}
	r := rand.New(rand.NewSource(7))
	edges := edgeLists()
	for range 20000 {
		checkPair(t, edges[r.Intn(len(edges))], edges[r.Intn(len(edges))])
	}
}

func TestKnownGaps(t *testing.T) {
	type known struct {
		l        []span
		from, to int
		want     []span
	}
	b := row(2, 4, 8, 12)
	whole := row(least, greatest)
	for i, k := range []known{
		{nil, 0, 9, row(0, 9)},
		{nil, 0, 0, nil},
		{nil, 9, 0, nil},
		{nil, least, greatest, whole},
		{nil, greatest, least, nil},
		{nil, least, least, nil},
		{nil, greatest, greatest, nil},
		// From below the list, inside it, and beyond it.
		{b, 0, 15, row(0, 2, 4, 8, 12, 15)},
		{b, 0, 12, row(0, 2, 4, 8)},
		{b, 0, 10, row(0, 2, 4, 8)},
		{b, 0, 8, row(0, 2, 4, 8)},
		{b, 0, 7, row(0, 2, 4, 7)},
		{b, 0, 5, row(0, 2, 4, 5)},
		{b, 0, 4, row(0, 2)},
		{b, 0, 3, row(0, 2)},
		{b, 0, 2, row(0, 2)},
		{b, 0, 1, row(0, 1)},
		{b, 1, 15, row(1, 2, 4, 8, 12, 15)},
		{b, 2, 15, row(4, 8, 12, 15)},
		{b, 3, 15, row(4, 8, 12, 15)},
		{b, 4, 15, row(4, 8, 12, 15)},
		{b, 5, 15, row(5, 8, 12, 15)},
		{b, 8, 15, row(12, 15)},
		{b, 9, 15, row(12, 15)},
		{b, 12, 15, row(12, 15)},
		{b, 13, 15, row(13, 15)},
		{b, 5, 7, row(5, 7)},
		{b, 4, 8, row(4, 8)},
		{b, 2, 4, nil},
		{b, 3, 4, nil},
		{b, 9, 11, nil},
		{b, -9, -5, row(-9, -5)},
		// Nothing is from one on to ahead of itself, or of one below it.
		{b, 0, 0, nil},
		{b, 2, 2, nil},
		{b, 3, 3, nil},
		{b, 4, 4, nil},
		{b, 6, 6, nil},
		{b, 20, 20, nil},
		{b, 15, 0, nil},
		{b, 7, 5, nil},
		{b, 5, 4, nil},
		{b, 6, 1, nil},
		{b, 4, 0, nil},
		{b, 13, 12, nil},
		{b, greatest, least, nil},
		// Lists that are not normal.
		{row(8, 12, 6, 6, 2, 4, 3, 4), 0, 15, row(0, 2, 4, 8, 12, 15)},
		{row(8, 10, 10, 12, 2, 3, 3, 4), 0, 15, row(0, 2, 4, 8, 12, 15)},
		{row(5, 5), 0, 9, row(0, 9)},
		{row(7, 3), 0, 9, row(0, 9)},
		{row(1, 8, 3, 5), 0, 9, row(0, 1, 8, 9)},
		{row(1, 8, 1, 8), 0, 9, row(0, 1, 8, 9)},
		// The ends of what an int can be.
		{b, least, greatest, row(least, 2, 4, 8, 12, greatest)},
		{whole, least, greatest, nil},
		{whole, 0, 9, nil},
		{row(least, 0), least, greatest, row(0, greatest)},
		{row(0, greatest), least, greatest, row(least, 0)},
		{row(least, 0, 1, greatest), least, greatest, row(0, 1)},
		{row(least, least+1), least, least + 2, row(least+1, least+2)},
		{row(greatest-1, greatest), greatest - 2, greatest, row(greatest-2, greatest-1)},
		{row(greatest-1, greatest), least, greatest, row(least, greatest-1)},
		{row(greatest, greatest), least, greatest, whole},
		{row(greatest, least), least, greatest, whole},
		{row(least, least), least, greatest, whole},
	} {
		if got := spans.Gaps(k.l, k.from, k.to); !slices.Equal(got, k.want) {
			t.Errorf("%d: Gaps(%v, %d, %d): %v; want %v", i, k.l, k.from, k.to, got, k.want)
		}
	}
}

// checkGaps holds P5.2 for Gaps.
func checkGaps(t *testing.T, l []span, from, to int) {
	t.Helper()
	in := setOf(l)
	want := rowOf(func(x int) bool { return x >= from && x < to && !in(x) }, l, row(from, to))
	got := spans.Gaps(l, from, to)
	if !slices.Equal(got, want) {
		t.Errorf("Gaps(%v, %d, %d): %v; want %v", l, from, to, got, want)
	}
	if spans.Check(got...) != api.OK || !slices.Equal(got, spans.Less(row(from, to), l)) {
		t.Errorf("Gaps(%v, %d, %d): %v, beside Less: %v", l, from, to, got, spans.Less(row(from, to), l))
	}
}

func TestGaps(t *testing.T) {
	for _, l := range lists(0, 3, 2) {
		for from := -1; from <= 4; from++ {
			for to := -1; to <= 4; to++ {
				checkGaps(t, l, from, to)
			}
		}
	}
	r := rand.New(rand.NewSource(8))
	for _, l := range append(edgeLists(), manyLists(9, 20000)...) {
		ends := probes(l)
		checkGaps(t, l, least, greatest)
		checkGaps(t, l, someInt(r), someInt(r))
		checkGaps(t, l, ends[r.Intn(len(ends))], ends[r.Intn(len(ends))])
	}
}

// TestManySpans holds P5.1 to P5.3 for long lists.
func TestManySpans(t *testing.T) {
	const n = 30000
	var even, odd []span
	for x := range n {
		even = append(even, span{From: 2 * x, To: 2*x + 1})
		odd = append(odd, span{From: 2*x + 1, To: 2*x + 2})
	}
	mixed := slices.Clone(even)
	r := rand.New(rand.NewSource(10))
	r.Shuffle(n, func(i, j int) { mixed[i], mixed[j] = mixed[j], mixed[i] })
	if !slices.Equal(spans.Norm(mixed...), even) || spans.Total(mixed...) != n {
		t.Error("Norm of the even numbers")
	}
	if spans.Check(even...) != api.OK || spans.Check(mixed...) != api.ErrArg {
		t.Error("Check of the even numbers")
	}
	if got := spans.Union(mixed, odd); !slices.Equal(got, row(0, 2*n)) {
		t.Errorf("Union: %d spans", len(got))
	}
	if got := spans.Meet(mixed, odd); len(got) > 0 {
		t.Errorf("Meet: %d spans", len(got))
	}
	if !slices.Equal(spans.Less(mixed, odd), even) || !slices.Equal(spans.Less(row(0, 2*n), mixed), odd) {
		t.Error("Less")
	}
	if !slices.Equal(spans.Gaps(mixed, 0, 2*n), odd) {
		t.Error("Gaps")
	}
}

// withSpare is a list behind which, in the same memory, other spans lie.
func withSpare(l []span) []span {
	return append(append(make([]span, 0, len(l)+3), l...), row(70, 71, 80, 82, 90, 93)...)[:len(l)]
}

// whole is a list with what lies behind it.
func whole(l []span) []span { return l[:cap(l)] }

// TestArgumentsStay holds the rule on memory: arguments, and what lies behind them, stay; results are new.
func TestArgumentsStay(t *testing.T) {
	calls := map[string]func(a, b []span) []span{
		"Norm":  func(a, b []span) []span { return spans.Norm(a...) },
		"Union": spans.Union,
		"Meet":  spans.Meet,
		"Less":  spans.Less,
		"Gaps":  func(a, b []span) []span { return spans.Gaps(a, 0, 60) },
		"none": func(a, b []span) []span {
			spans.Check(a...)
			spans.Has(a, 5)
			spans.Total(a...)
			return nil
		},
	}
	for name, call := range calls {
		for _, a := range [][]span{nil, row(1, 20), row(1, 5, 10, 20), row(10, 20, 7, 7, 1, 5, 4, 6)} {
			for _, b := range [][]span{nil, row(3, 12), row(3, 4, 15, 30), row(15, 30, 9, 8, 3, 4, 3, 4)} {
				checkMemory(t, name, call, withSpare(a), withSpare(b))
			}
		}
	}
}

// checkMemory changes all that a call answered, and looks whether anything else did so.
func checkMemory(t *testing.T, name string, call func(a, b []span) []span, a, b []span) {
	t.Helper()
	oldA, oldB := slices.Clone(whole(a)), slices.Clone(whole(b))
	first, second := call(a, b), call(a, b)
	kept := slices.Clone(second)
	for i := range whole(first) {
		whole(first)[i] = span{From: -7, To: 77}
	}
	if !slices.Equal(whole(a), oldA) || !slices.Equal(whole(b), oldB) {
		t.Errorf("%s of %v and %v: the arguments are %v and %v", name, oldA, oldB, whole(a), whole(b))
	}
	if !slices.Equal(second, kept) || !slices.Equal(call(a, b), kept) {
		t.Errorf("%s of %v and %v: two results share memory", name, oldA, oldB)
	}
}
