package mask_test

import (
	"math"
	"math/big"
	"math/rand"
	"slices"
	"testing"

	"dogwatch/mask"
)

const all = math.MaxUint64

// frames are in and beyond what a set can have.
func frames() []int {
	list := []int{math.MinInt, math.MinInt + 1, -1 << 32, -65, -64, -63, -2, -1}
	for f := range 67 {
		list = append(list, f)
	}
	return append(list, 127, 128, 129, 1<<32, 1<<32+1, math.MaxInt-1, math.MaxInt)
}

// numbers are ticks, counts and distances, in and far beyond a frame.
func numbers() []int {
	list := []int{math.MinInt, math.MinInt + 1, math.MinInt + 63, -1 << 32, -1<<32 - 1, -1000, -129, -128, -127}
	for n := -66; n <= 66; n++ {
		list = append(list, n)
	}
	return append(list, 127, 128, 129, 1000, 1<<32, 1<<32+1, math.MaxInt-64, math.MaxInt-1, math.MaxInt)
}

// sets are the empty one, that of all ticks, single ticks, halves, and those with and without the ends.
func sets() []uint64 {
	list := []uint64{
		0, all, 1, 2, 3, 1 << 63, 1<<63 | 1, 3 << 62, 7 << 61, all - 1, all >> 1, all >> 2 << 1,
		all >> 32, all >> 32 << 32, 0x5555555555555555, 0xaaaaaaaaaaaaaaaa, 0x3333333333333333, 0xcccccccccccccccc,
		0x0f0f0f0f0f0f0f0f, 1<<32 | 1<<31, 0x8000000180000001, 0b1010010, 0b100110,
	}
	for t := range 64 {
		list = append(list, 1<<t, all^1<<t, all>>t, all<<t)
	}
	return list
}

// someSet has few ticks, or many, or about half of them, or long runs.
func someSet(r *rand.Rand) uint64 {
	m := r.Uint64()
	switch r.Intn(5) {
	case 0:
		return m & r.Uint64() & r.Uint64()
	case 1:
		return m | r.Uint64() | r.Uint64()
	case 2:
		return m >> r.Intn(64)
	case 3:
		return m | m<<1 | m<<2 | m<<3
	}
	return m
}

// manySets are the named ones and random ones.
func manySets(seed int64, n int) []uint64 {
	list := sets()
	r := rand.New(rand.NewSource(seed))
	for range n {
		list = append(list, someSet(r))
	}
	return list
}

// A list says for each tick whether it is in a set: what the results are held against, without bits.
type list [64]bool

// listed is a set, by halving a number of any length.
func listed(m uint64) list {
	var l list
	n := new(big.Int).SetUint64(m)
	for t := range l {
		half, odd := new(big.Int).QuoRem(n, big.NewInt(2), new(big.Int))
		l[t], n = odd.Sign() != 0, half
	}
	return l
}

// of is a list of ticks, each of which is from 0 to 63.
func of(ticks ...int) list {
	var l list
	for _, t := range ticks {
		l[t] = true
	}
	return l
}

// ticks are those of a list, rising.
func (l list) ticks() []int {
	var ticks []int
	for t, in := range l {
		if in {
			ticks = append(ticks, t)
		}
	}
	return ticks
}

// ticksOfFrame is how many a frame has.
func ticksOfFrame(f int) int {
	switch {
	case f < 0:
		return 0
	case f > 64:
		return 64
	}
	return f
}

// tickAfter is the tick k ticks after a tick, in a frame that has ticks, by numbers of any length.
func tickAfter(f, tick, k int) int {
	sum := new(big.Int).Add(big.NewInt(int64(tick)), big.NewInt(int64(k)))
	return int(sum.Mod(sum, big.NewInt(int64(f))).Int64())
}

func TestListed(t *testing.T) {
	if l := listed(1<<63 | 5); !slices.Equal(l.ticks(), []int{0, 2, 63}) || l != of(63, 0, 2) {
		t.Error(l)
	}
	if tickAfter(10, 8, math.MinInt) != 0 || tickAfter(7, 6, math.MaxInt) != 6 || tickAfter(5, 0, -1) != 4 {
		t.Error("tickAfter")
	}
}

// TestAll holds P4.1 for All.
func TestAll(t *testing.T) {
	for _, f := range frames() {
		var want list
		for tick := range ticksOfFrame(f) {
			want[tick] = true
		}
		if m := mask.All(f); listed(m) != want {
			t.Errorf("All(%d): %#x", f, m)
		}
	}
	for f, want := range map[int]uint64{-1: 0, 0: 0, 1: 1, 2: 3, 63: 1<<63 - 1, 64: all, 65: all, math.MinInt: 0, math.MaxInt: all} {
		if m := mask.All(f); m != want {
			t.Errorf("All(%d): %#x; want %#x", f, m, want)
		}
	}
}

// TestHasAndCount hold P4.1 for Has and Count.
func TestHasAndCount(t *testing.T) {
	for _, m := range manySets(1, 300) {
		l := listed(m)
		for _, tick := range numbers() {
			want := tick >= 0 && tick <= 63 && l[tick]
			if got := mask.Has(m, tick); got != want {
				t.Errorf("Has(%#x, %d): %v; want %v", m, tick, got, want)
			}
		}
		if n := mask.Count(m); n != len(l.ticks()) {
			t.Errorf("Count(%#x): %d; want %d", m, n, len(l.ticks()))
		}
	}
	for m, want := range map[uint64]int{0: 0, 1: 1, 1 << 63: 1, 1<<63 | 1: 2, all >> 1: 63, all: 64} {
		if n := mask.Count(m); n != want {
			t.Errorf("Count(%#x): %d; want %d", m, n, want)
		}
	}
}

func TestKnownRounds(t *testing.T) {
	type round struct {
		f, from, n int
		want       list
	}
	for i, r := range []round{
		{10, 8, 4, of(8, 9, 0, 1)},
		{10, 8, 0, of()},
		{10, 8, -1, of()},
		{10, 8, math.MinInt, of()},
		{10, 8, 2, of(8, 9)},
		{10, 8, 3, of(8, 9, 0)},
		{10, 0, 3, of(0, 1, 2)},
		{10, 9, 1, of(9)},
		{10, 10, 1, of(0)},
		{10, 11, 1, of(1)},
		{10, 100, 1, of(0)},
		{10, -1, 1, of(9)},
		{10, -1, 2, of(9, 0)},
		{10, -10, 1, of(0)},
		{10, -12, 2, of(8, 9)},
		{10, 3, 9, of(3, 4, 5, 6, 7, 8, 9, 0, 1)},
		{10, 3, 10, of(0, 1, 2, 3, 4, 5, 6, 7, 8, 9)},
		{10, 3, 11, of(0, 1, 2, 3, 4, 5, 6, 7, 8, 9)},
		{10, 3, 64, of(0, 1, 2, 3, 4, 5, 6, 7, 8, 9)},
		{10, 3, math.MaxInt, of(0, 1, 2, 3, 4, 5, 6, 7, 8, 9)},
		// The least int is -9223372036854775808, the greatest one 9223372036854775807.
		{10, math.MinInt, 1, of(2)},
		{10, math.MaxInt, 1, of(7)},
		{10, math.MaxInt, 4, of(7, 8, 9, 0)},
		{64, math.MinInt, 1, of(0)},
		{64, math.MaxInt, 2, of(63, 0)},
		{64, 63, 2, of(63, 0)},
		{64, 64, 1, of(0)},
		{64, -1, 1, of(63)},
		{63, 62, 2, of(62, 0)},
		{63, 63, 1, of(0)},
		{65, 64, 1, of(0)},
		{100, 99, 2, of(35, 36)},
		{math.MaxInt, -1, 2, of(63, 0)},
		{1, 5, 1, of(0)},
		{1, math.MinInt, 7, of(0)},
		{1, 5, 0, of()},
		{0, 5, 3, of()},
		{0, 0, 0, of()},
		{0, math.MinInt, math.MaxInt, of()},
		{-1, 5, 3, of()},
		{math.MinInt, math.MinInt, 1, of()},
	} {
		if m := mask.Round(r.f, r.from, r.n); listed(m) != r.want {
			t.Errorf("%d: Round(%d, %d, %d): %v; want %v", i, r.f, r.from, r.n, listed(m).ticks(), r.want.ticks())
		}
	}
}

// checkRound holds P4.2 for Round against ticks taken one by one.
func checkRound(t *testing.T, f, from, n int) {
	t.Helper()
	var want list
	length := ticksOfFrame(f)
	for i := 0; i < n && i < length; i++ {
		want[tickAfter(length, i, from)] = true
	}
	if m := mask.Round(f, from, n); listed(m) != want {
		t.Errorf("Round(%d, %d, %d): %v; want %v", f, from, n, listed(m).ticks(), want.ticks())
	}
}

func TestRound(t *testing.T) {
	for _, f := range frames() {
		for _, from := range []int{math.MinInt, -65, -64, -1, 0, 1, f - 1, f, f + 1, 62, 63, 64, 65, math.MaxInt} {
			for _, n := range []int{math.MinInt, -1, 0, 1, 2, f - 1, f, f + 1, 63, 64, 65, math.MaxInt} {
				checkRound(t, f, from, n)
			}
		}
	}
	for _, n := range numbers() {
		for _, f := range []int{1, 2, 7, 63, 64, 65} {
			checkRound(t, f, n, 3)
			checkRound(t, f, 5, n)
		}
	}
	r := rand.New(rand.NewSource(2))
	for range 3000 {
		checkRound(t, r.Intn(70)-2, int(r.Uint64()), r.Intn(70)-2)
	}
}

func TestKnownTurns(t *testing.T) {
	type turn struct {
		f    int
		m    uint64
		k    int
		want list
	}
	for i, u := range []turn{
		{4, 1<<3 | 1<<9, 1, of(0)},
		{4, 1, -1, of(3)},
		{4, 1, 0, of(0)},
		{4, 1, 3, of(3)},
		{4, 1, 4, of(0)},
		{4, 1, 5, of(1)},
		{4, 1, -4, of(0)},
		{4, 1, -5, of(3)},
		{4, 0b1011, 0, of(0, 1, 3)},
		{4, 0b1011, 1, of(0, 1, 2)},
		{4, 0b1011, -1, of(0, 2, 3)},
		{4, 0b1011, 2, of(1, 2, 3)},
		// What is beyond the frame neither stays nor comes in.
		{4, 0b10000, 0, of()},
		{4, 0b10000, -1, of()},
		{4, 0b10000, 1, of()},
		{4, 1 << 63, 1, of()},
		{4, all, 0, of(0, 1, 2, 3)},
		{4, all, 3, of(0, 1, 2, 3)},
		{4, all - 15, 2, of()},
		{63, 1 << 63, 1, of()},
		{63, 1 << 62, 1, of(0)},
		{63, 1, -1, of(62)},
		{64, 1 << 63, 1, of(0)},
		{64, 1, -1, of(63)},
		{64, 1, 63, of(63)},
		{64, 1<<63 | 1, 0, of(0, 63)},
		{64, 1<<63 | 1, 64, of(0, 63)},
		{64, 1 << 63, math.MinInt, of(63)},
		{64, 1 << 63, math.MaxInt, of(62)},
		{65, 1 << 63, 1, of(0)},
		{math.MaxInt, 1 << 63, 1, of(0)},
		{10, 1, math.MinInt, of(2)},
		{10, 1 << 9, math.MinInt, of(1)},
		{10, 1, math.MaxInt, of(7)},
		{10, 1 << 9, math.MaxInt, of(6)},
		{1, all, 17, of(0)},
		{1, 1, math.MinInt, of(0)},
		{1, 2, 1, of()},
		{0, all, 0, of()},
		{0, all, 1, of()},
		{-1, all, 1, of()},
		{math.MinInt, all, math.MinInt, of()},
	} {
		if m := mask.Turn(u.f, u.m, u.k); listed(m) != u.want {
			t.Errorf("%d: Turn(%d, %#x, %d): %v; want %v", i, u.f, u.m, u.k, listed(m).ticks(), u.want.ticks())
		}
	}
}

// checkTurn holds P4.2 for Turn against ticks moved one by one.
func checkTurn(t *testing.T, f int, m uint64, k int) {
	t.Helper()
	var want list
	length := ticksOfFrame(f)
	for _, tick := range listed(m).ticks() {
		if tick < length {
			want[tickAfter(length, tick, k)] = true
		}
	}
	if got := mask.Turn(f, m, k); listed(got) != want {
		t.Errorf("Turn(%d, %#x, %d): %v; want %v", f, m, k, listed(got).ticks(), want.ticks())
	}
}

func TestTurn(t *testing.T) {
	for _, f := range frames() {
		for _, k := range []int{math.MinInt, -65, -64, -2, -1, 0, 1, f - 1, f, f + 1, 63, 64, math.MaxInt} {
			for _, m := range []uint64{0, 1, 2, 1 << 63, all, all - 1, all >> 1, 0x5555555555555555, 0x8000000180000001} {
				checkTurn(t, f, m, k)
			}
		}
	}
	for _, k := range numbers() {
		for _, f := range []int{1, 2, 7, 63, 64, 65} {
			checkTurn(t, f, 0x8421084210842109, k)
		}
	}
	r := rand.New(rand.NewSource(3))
	for range 3000 {
		checkTurn(t, r.Intn(70)-2, someSet(r), int(r.Uint64()))
	}
}

// TestTurnLeadsBack holds, beside P4.2, that so many ticks later and as many earlier is what a frame has of a set.
func TestTurnLeadsBack(t *testing.T) {
	r := rand.New(rand.NewSource(4))
	for range 3000 {
		f, m, k := r.Intn(70)-2, someSet(r), r.Intn(1000)-500
		if back := mask.Turn(f, mask.Turn(f, m, k), -k); back != m&mask.All(f) {
			t.Errorf("Turn(%d, %#x, %d) and back: %#x", f, m, k, back)
		}
	}
}

func TestKnownEnds(t *testing.T) {
	type ends struct {
		m               uint64
		k               int
		lowest, highest list
	}
	three := mask.Of(1, 4, 6)
	for i, e := range []ends{
		{three, 2, of(1, 4), of(4, 6)},
		{three, 1, of(1), of(6)},
		{three, 0, of(), of()},
		{three, -1, of(), of()},
		{three, -3, of(), of()},
		{three, math.MinInt, of(), of()},
		{three, math.MinInt + 1, of(), of()},
		{three, 3, of(1, 4, 6), of(1, 4, 6)},
		{three, 4, of(1, 4, 6), of(1, 4, 6)},
		{three, 64, of(1, 4, 6), of(1, 4, 6)},
		{three, math.MaxInt, of(1, 4, 6), of(1, 4, 6)},
		{1<<63 | 1, 1, of(0), of(63)},
		{1<<63 | 1, 2, of(0, 63), of(0, 63)},
		{1 << 63, 1, of(63), of(63)},
		{1, 1, of(0), of(0)},
		{0, -1, of(), of()},
		{0, 0, of(), of()},
		{0, 1, of(), of()},
		{0, math.MaxInt, of(), of()},
		{0, math.MinInt, of(), of()},
		{all, 0, of(), of()},
		{all, 1, of(0), of(63)},
		{all, 3, of(0, 1, 2), of(61, 62, 63)},
		{all, 63, listed(all >> 1), listed(all - 1)},
		{all, 64, listed(all), listed(all)},
		{all, 65, listed(all), listed(all)},
		{all, math.MaxInt, listed(all), listed(all)},
		{all, math.MinInt, of(), of()},
	} {
		if m := mask.Lowest(e.m, e.k); listed(m) != e.lowest {
			t.Errorf("%d: Lowest(%#x, %d): %v; want %v", i, e.m, e.k, listed(m).ticks(), e.lowest.ticks())
		}
		if m := mask.Highest(e.m, e.k); listed(m) != e.highest {
			t.Errorf("%d: Highest(%#x, %d): %v; want %v", i, e.m, e.k, listed(m).ticks(), e.highest.ticks())
		}
	}
}

// checkEnds holds P4.3 against the ends of a list.
func checkEnds(t *testing.T, m uint64, k int) {
	t.Helper()
	ticks := listed(m).ticks()
	n := max(0, min(k, len(ticks)))
	if got := mask.Lowest(m, k); listed(got) != of(ticks[:n]...) {
		t.Errorf("Lowest(%#x, %d): %v; want %v", m, k, listed(got).ticks(), ticks[:n])
	}
	if got := mask.Highest(m, k); listed(got) != of(ticks[len(ticks)-n:]...) {
		t.Errorf("Highest(%#x, %d): %v; want %v", m, k, listed(got).ticks(), ticks[len(ticks)-n:])
	}
}

func TestEnds(t *testing.T) {
	for _, m := range manySets(5, 200) {
		n := len(listed(m).ticks())
		for _, k := range []int{math.MinInt, -65, -64, -1, 0, 1, 2, n - 2, n - 1, n, n + 1, n + 2, 63, 64, 65, math.MaxInt} {
			checkEnds(t, m, k)
		}
	}
	for _, k := range numbers() {
		checkEnds(t, 0, k)
		checkEnds(t, all, k)
		checkEnds(t, 0x8421084210842109, k)
	}
}

// TestTicks holds P4.4 for Ticks.
func TestTicks(t *testing.T) {
	for _, m := range manySets(6, 2000) {
		if got := mask.Ticks(m); !slices.Equal(got, listed(m).ticks()) {
			t.Errorf("Ticks(%#x): %v; want %v", m, got, listed(m).ticks())
		}
	}
	for m, want := range map[uint64][]int{0: {}, 1: {0}, 1 << 63: {63}, 1<<63 | 1: {0, 63}, 0b1010010: {1, 4, 6}} {
		if got := mask.Ticks(m); !slices.Equal(got, want) {
			t.Errorf("Ticks(%#x): %v; want %v", m, got, want)
		}
	}
}

// TestOf holds P4.4 for Of.
func TestOf(t *testing.T) {
	type set struct {
		ticks []int
		want  list
	}
	for i, s := range []set{
		{nil, of()},
		{[]int{}, of()},
		{[]int{0}, of(0)},
		{[]int{63}, of(63)},
		{[]int{0, 63}, of(0, 63)},
		{[]int{63, 0}, of(0, 63)},
		{[]int{5, 3, 5, 3, 3}, of(3, 5)},
		{[]int{64}, of()},
		{[]int{-1}, of()},
		{[]int{64, 65, 127, 128, -1, -64, -128}, of()},
		{[]int{math.MinInt, math.MaxInt, 1 << 32, -1 << 32}, of()},
		{[]int{-1, 7, 64, 8, math.MinInt, 9}, of(7, 8, 9)},
		{numbers(), listed(all)},
	} {
		if m := mask.Of(s.ticks...); listed(m) != s.want {
			t.Errorf("%d: Of(%v): %v; want %v", i, s.ticks, listed(m).ticks(), s.want.ticks())
		}
	}
	if m := mask.Of(); m != 0 {
		t.Errorf("Of(): %#x", m)
	}
	for _, tick := range numbers() {
		var want list
		if tick >= 0 && tick <= 63 {
			want[tick] = true
		}
		if m := mask.Of(tick); listed(m) != want {
			t.Errorf("Of(%d): %v", tick, listed(m).ticks())
		}
	}
	r := rand.New(rand.NewSource(7))
	for range 2000 {
		ticks := make([]int, r.Intn(100))
		var want list
		for i := range ticks {
			ticks[i] = r.Intn(80) - 8
			if ticks[i] >= 0 && ticks[i] <= 63 {
				want[ticks[i]] = true
			}
		}
		if m := mask.Of(ticks...); listed(m) != want {
			t.Errorf("Of(%v): %v; want %v", ticks, listed(m).ticks(), want.ticks())
		}
	}
}

func TestKnownRuns(t *testing.T) {
	type runs struct {
		m    uint64
		want [][2]int
	}
	for _, r := range []runs{
		{0, nil},
		{1, [][2]int{{0, 1}}},
		{mask.Of(1, 2, 5), [][2]int{{1, 3}, {5, 6}}},
		{all, [][2]int{{0, 64}}},
		{all - 1, [][2]int{{1, 64}}},
		{all >> 1, [][2]int{{0, 63}}},
		{1 << 63, [][2]int{{63, 64}}},
		// The end and the beginning of a set are not one run.
		{1<<63 | 1, [][2]int{{0, 1}, {63, 64}}},
		{3<<62 | 3, [][2]int{{0, 2}, {62, 64}}},
		{all >> 32, [][2]int{{0, 32}}},
		{all >> 32 << 32, [][2]int{{32, 64}}},
		{all ^ 1<<32, [][2]int{{0, 32}, {33, 64}}},
		{0b1011101, [][2]int{{0, 1}, {2, 5}, {6, 7}}},
		{1<<62 | 1<<60, [][2]int{{60, 61}, {62, 63}}},
	} {
		if got := mask.Runs(r.m); !slices.Equal(got, r.want) {
			t.Errorf("Runs(%#x): %v; want %v", r.m, got, r.want)
		}
	}
}

// runsOf are a list's, tick by tick.
func runsOf(l list) [][2]int {
	var runs [][2]int
	for t, in := range l {
		switch {
		case in && t > 0 && l[t-1]:
			runs[len(runs)-1][1] = t + 1
		case in:
			runs = append(runs, [2]int{t, t + 1})
		}
	}
	return runs
}

// TestRuns holds P4.4 for Runs.
func TestRuns(t *testing.T) {
	for _, m := range manySets(8, 3000) {
		if got := mask.Runs(m); !slices.Equal(got, runsOf(listed(m))) {
			t.Errorf("Runs(%#x): %v; want %v", m, got, runsOf(listed(m)))
		}
	}
	// One run from each tick to each later one.
	for first := range 64 {
		for end := first + 1; end <= 64; end++ {
			var l list
			for tick := first; tick < end; tick++ {
				l[tick] = true
			}
			if got := mask.Runs(mask.Of(l.ticks()...)); !slices.Equal(got, [][2]int{{first, end}}) {
				t.Errorf("Runs of the ticks from %d to before %d: %v", first, end, got)
			}
		}
	}
}

func TestKnownNexts(t *testing.T) {
	type next struct {
		m    uint64
		t    int
		want int
		ok   bool
	}
	two := mask.Of(3, 7)
	for i, n := range []next{
		{two, 5, 7, true},
		{two, 8, 3, true},
		{two, 7, 7, true},
		{two, 6, 7, true},
		{two, 4, 7, true},
		{two, 3, 3, true},
		{two, 2, 3, true},
		{two, 0, 3, true},
		{two, -1, 3, true},
		{two, math.MinInt, 3, true},
		{two, 63, 3, true},
		{two, 64, 3, true},
		{two, 65, 3, true},
		{two, 67, 3, true},
		{two, math.MaxInt, 3, true},
		{0, 0, 0, false},
		{0, 5, 0, false},
		{0, 64, 0, false},
		{0, -1, 0, false},
		{0, math.MinInt, 0, false},
		{0, math.MaxInt, 0, false},
		{1, 0, 0, true},
		{1, 1, 0, true},
		{1, -1, 0, true},
		{1, 64, 0, true},
		{1 << 63, 0, 63, true},
		{1 << 63, 62, 63, true},
		{1 << 63, 63, 63, true},
		{1 << 63, 64, 63, true},
		{1 << 63, math.MaxInt, 63, true},
		{1<<63 | 1, 1, 63, true},
		{1<<63 | 1, 63, 63, true},
		{1<<63 | 1, 64, 0, true},
		{all, -1, 0, true},
		{all, 0, 0, true},
		{all, 17, 17, true},
		{all, 63, 63, true},
		{all, 64, 0, true},
		{all, math.MaxInt, 0, true},
		{all, math.MinInt, 0, true},
	} {
		if got, ok := mask.Next(n.m, n.t); got != n.want || ok != n.ok {
			t.Errorf("%d: Next(%#x, %d): %d, %v; want %d, %v", i, n.m, n.t, got, ok, n.want, n.ok)
		}
	}
}

// nextOf is what P4.4 says, tick by tick.
func nextOf(l list, from int) (int, bool) {
	ticks := l.ticks()
	for _, t := range ticks {
		if t >= from {
			return t, true
		}
	}
	if len(ticks) == 0 {
		return 0, false
	}
	return ticks[0], true
}

// TestNext holds P4.4 for Next.
func TestNext(t *testing.T) {
	for _, m := range manySets(9, 300) {
		for _, from := range numbers() {
			want, wantOK := nextOf(listed(m), from)
			if got, ok := mask.Next(m, from); got != want || ok != wantOK {
				t.Errorf("Next(%#x, %d): %d, %v; want %d, %v", m, from, got, ok, want, wantOK)
			}
		}
	}
}

// TestRoundTrip holds P4.5: Of of Ticks is the set, and so is the union of all Runs.
func TestRoundTrip(t *testing.T) {
	for _, m := range manySets(10, 3000) {
		if back := mask.Of(mask.Ticks(m)...); back != m {
			t.Errorf("Of of Ticks of %#x: %#x", m, back)
		}
		var union uint64
		for _, run := range mask.Runs(m) {
			part := mask.Round(64, run[0], run[1]-run[0])
			if run[0] >= run[1] || union&part != 0 {
				t.Errorf("Runs(%#x): %v", m, mask.Runs(m))
			}
			union |= part
		}
		if union != m {
			t.Errorf("the union of Runs of %#x: %#x", m, union)
		}
	}
}

// checkAllocation holds P4.6: sets that each begin where the one before it ended are disjoint, as long as the frame has room.
func checkAllocation(t *testing.T, f, from int, counts []int) {
	t.Helper()
	var taken uint64
	total := 0
	for _, n := range counts {
		part := mask.Round(f, from, n)
		if taken&part != 0 || mask.Count(part) != n || part&^mask.All(f) != 0 {
			t.Errorf("in a frame of %d, %v from %d on: Round(%d, %d, %d) is %#x, beside %#x", f, counts, from-total, f, from, n, part, taken)
			return
		}
		taken |= part
		from += n
		total += n
	}
	if mask.Count(taken) != total {
		t.Errorf("in a frame of %d: %v are %d ticks", f, counts, mask.Count(taken))
	}
}

func TestDisjointness(t *testing.T) {
	for f := range 65 {
		for _, from := range []int{math.MinInt, -f - 1, -1, 0, 1, f / 2, f - 1, f, 63, 64, math.MaxInt - 64} {
			checkAllocation(t, f, from, slices.Repeat([]int{1}, f))
			checkAllocation(t, f, from, []int{f})
			checkAllocation(t, f, from, []int{0, f / 2, 0, f - f/2, 0})
			checkAllocation(t, f, from, []int{f / 3, f / 3, f / 3})
		}
	}
	r := rand.New(rand.NewSource(11))
	for range 5000 {
		f := r.Intn(65)
		var counts []int
		for left := f; left > 0 && r.Intn(20) > 0; {
			n := r.Intn(left + 1)
			counts = append(counts, n)
			left -= n
		}
		checkAllocation(t, f, int(r.Uint64()>>1)-1<<40-r.Intn(1<<20), counts)
		checkAllocation(t, f, -r.Intn(1<<40), counts)
	}
}

// TestArgumentsStay holds the rule on memory: arguments, and what lies behind them, stay; results are new.
func TestArgumentsStay(t *testing.T) {
	ticks := append(make([]int, 0, 8), 5, 3, -1, 64, 77, 78, 79, 80)[:4]
	old := slices.Clone(ticks[:8])
	if m := mask.Of(ticks...); m != 1<<5|1<<3 || !slices.Equal(ticks[:8], old) {
		t.Errorf("Of(%v): %#x; the argument was %v", ticks[:8], m, old)
	}
	first, second := mask.Ticks(all), mask.Ticks(all)
	for i := range first[:cap(first)] {
		first[:cap(first)][i] = -7
	}
	if !slices.Equal(second, listed(all).ticks()) || !slices.Equal(mask.Ticks(all), second) {
		t.Error("two results of Ticks share memory")
	}
	firstRuns, secondRuns := mask.Runs(0b1011), mask.Runs(0b1011)
	for i := range firstRuns[:cap(firstRuns)] {
		firstRuns[:cap(firstRuns)][i] = [2]int{-7, -7}
	}
	if want := [][2]int{{0, 2}, {3, 4}}; !slices.Equal(secondRuns, want) || !slices.Equal(mask.Runs(0b1011), want) {
		t.Error("two results of Runs share memory")
	}
}
