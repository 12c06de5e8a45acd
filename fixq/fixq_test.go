package fixq_test

import (
	"math"
	"math/big"
	"math/bits"
	"math/rand"
	"slices"
	"testing"

	"dogwatch/api"
	"dogwatch/fixq"
)

// ints are the ends of the range of int, the places where a product or a sum leaves it, and numbers round them.
func ints() []int {
	list := []int{0, 1, 2, 3, 5, 7, 10, 1000, 3037000499, 3037000500}
	for _, shift := range []int{16, 31, 32, 33, 61, 62} {
		for d := -2; d <= 2; d++ {
			list = append(list, 1<<shift+d)
		}
	}
	list = append(list, math.MaxInt, math.MaxInt-1, math.MaxInt-2, math.MaxInt/2, math.MaxInt/3)
	for _, n := range slices.Clone(list) {
		list = append(list, -n)
	}
	return append(list, math.MinInt, math.MinInt+1, math.MinInt+2)
}

// words are the same for uint64.
func words() []uint64 {
	list := []uint64{0, 1, 2, 3, 4, 5, 6, 7, 10, 12, 18, 1000, 6700417, 641}
	for _, shift := range []int{16, 31, 32, 33, 62, 63} {
		for d := -2; d <= 2; d++ {
			list = append(list, uint64(1)<<shift+uint64(d))
		}
	}
	return append(list, math.MaxUint64, math.MaxUint64-1, math.MaxUint64-2, math.MaxUint64/2, math.MaxUint64/3)
}

func word(n uint64) *big.Int { return new(big.Int).SetUint64(n) }

func times(a, b uint64) *big.Int { return new(big.Int).Mul(word(a), word(b)) }

// someWord has any number of bits, so that small and great ones come alike.
func someWord(r *rand.Rand) uint64 { return r.Uint64() >> uint(r.Intn(64)) }

func TestKnownSums(t *testing.T) {
	type sum struct {
		f    func(a, b int) (int, api.Errno)
		a, b int
		want int
		e    api.Errno
	}
	for i, s := range []sum{
		{fixq.Add, 1, 2, 3, api.OK},
		{fixq.Add, 1 << 62, 1 << 62, 0, api.ErrOver},
		{fixq.Add, math.MaxInt, 0, math.MaxInt, api.OK},
		{fixq.Add, math.MaxInt, 1, 0, api.ErrOver},
		{fixq.Add, math.MinInt, 0, math.MinInt, api.OK},
		{fixq.Add, math.MinInt, -1, 0, api.ErrOver},
		{fixq.Add, math.MinInt, math.MinInt, 0, api.ErrOver},
		{fixq.Add, math.MinInt, math.MaxInt, -1, api.OK},
		{fixq.Add, -1 << 62, -1 << 62, math.MinInt, api.OK},
		{fixq.Sub, 1, 2, -1, api.OK},
		{fixq.Sub, -1 << 63, -1, -1<<63 + 1, api.OK},
		{fixq.Sub, 0, math.MinInt, 0, api.ErrOver},
		{fixq.Sub, -1, math.MinInt, math.MaxInt, api.OK},
		{fixq.Sub, math.MinInt, 0, math.MinInt, api.OK},
		{fixq.Sub, math.MinInt, math.MinInt, 0, api.OK},
		{fixq.Sub, math.MinInt, 1, 0, api.ErrOver},
		{fixq.Sub, math.MaxInt, -1, 0, api.ErrOver},
		{fixq.Mul, -1 << 62, 2, -1 << 63, api.OK},
		{fixq.Mul, 1 << 62, 2, 0, api.ErrOver},
		{fixq.Mul, 2, -1 << 62, -1 << 63, api.OK},
		{fixq.Mul, math.MinInt, -1, 0, api.ErrOver},
		{fixq.Mul, -1, math.MinInt, 0, api.ErrOver},
		{fixq.Mul, math.MinInt, 1, math.MinInt, api.OK},
		{fixq.Mul, 0, math.MinInt, 0, api.OK},
		{fixq.Mul, math.MinInt, math.MinInt, 0, api.ErrOver},
		{fixq.Mul, 1 << 32, 1 << 32, 0, api.ErrOver},
		{fixq.Mul, 1 << 32, -1 << 31, math.MinInt, api.OK},
		{fixq.Mul, 3037000500, 3037000500, 0, api.ErrOver},
		{fixq.Mul, 3037000499, 3037000499, 9223372030926249001, api.OK},
		{fixq.Mul, -3, -4, 12, api.OK},
		// Just below the smallest int.
		{fixq.Mul, -3, 3074457345618258603, 0, api.ErrOver},
	} {
		if got, e := s.f(s.a, s.b); got != s.want || e != s.e {
			t.Errorf("%d: of %d and %d: %d, %d; want %d, %d", i, s.a, s.b, got, e, s.want, s.e)
		}
	}
}

// TestSums holds P2.1 against numbers of any length.
func TestSums(t *testing.T) {
	check := func(name string, a, b int, got int, e api.Errno, exact *big.Int) {
		t.Helper()
		if !exact.IsInt64() {
			if got != 0 || e != api.ErrOver {
				t.Errorf("%s(%d, %d): %d, %d; want ErrOver", name, a, b, got, e)
			}
			return
		}
		if int64(got) != exact.Int64() || e != api.OK {
			t.Errorf("%s(%d, %d): %d, %d; want %v", name, a, b, got, e, exact)
		}
	}
	all := func(a, b int) {
		t.Helper()
		x, y := big.NewInt(int64(a)), big.NewInt(int64(b))
		got, e := fixq.Add(a, b)
		check("Add", a, b, got, e, new(big.Int).Add(x, y))
		got, e = fixq.Sub(a, b)
		check("Sub", a, b, got, e, new(big.Int).Sub(x, y))
		got, e = fixq.Mul(a, b)
		check("Mul", a, b, got, e, new(big.Int).Mul(x, y))
	}
	for _, a := range ints() {
		for _, b := range ints() {
			all(a, b)
		}
	}
	r := rand.New(rand.NewSource(1))
	for range 20000 {
		all(int(someWord(r)), int(someWord(r)))
		all(-int(someWord(r)), int(someWord(r)>>1))
	}
}

func TestKnownQuotients(t *testing.T) {
	type quotient struct {
		a, b, c    uint64
		down, rest uint64
		e          api.Errno
		up         uint64
		upE        api.Errno
	}
	const top = math.MaxUint64
	for i, q := range []quotient{
		{1 << 63, 6, 4, 3 << 62, 0, api.OK, 3 << 62, api.OK},
		{1 << 63, 6, 2, 0, 0, api.ErrOver, 0, api.ErrOver},
		{7, 3, 4, 5, 1, api.OK, 6, api.OK},
		{0, 0, 0, 0, 0, api.ErrArg, 0, api.ErrArg},
		{top, top, 0, 0, 0, api.ErrArg, 0, api.ErrArg},
		{0, top, top, 0, 0, api.OK, 0, api.OK},
		{1, 1, top, 0, 1, api.OK, 1, api.OK},
		{top, top, top, top, 0, api.OK, top, api.OK},
		{top, 1, 1, top, 0, api.OK, top, api.OK},
		// Just at 2^64: one more than a word holds.
		{1 << 32, 1 << 32, 1, 0, 0, api.ErrOver, 0, api.ErrOver},
		{1 << 63, 2, 1, 0, 0, api.ErrOver, 0, api.ErrOver},
		{1 << 63, 4, 2, 0, 0, api.ErrOver, 0, api.ErrOver},
		{1 << 63, 1 << 63, 1 << 62, 0, 0, api.ErrOver, 0, api.ErrOver},
		// Just below, with a rest: down fits, up runs over.
		{top, 3, 2, 0, 0, api.ErrOver, 0, api.ErrOver},
		{1<<63 - 1, 1<<63 + 1, 1 << 62, top, 1<<62 - 1, api.OK, 0, api.ErrOver},
		{6148914691236517205, 6, 2, top, 0, api.OK, top, api.OK},
		{3689348814741910323, 11, 2, 0, 0, api.ErrOver, 0, api.ErrOver},
		{3689348814741910323, 9, 2, 16602069666338596453, 1, api.OK, 16602069666338596454, api.OK},
		{top, top - 1, top, top - 1, 0, api.OK, top - 1, api.OK},
		{top - 1, top - 1, top, top - 2, 1, api.OK, top - 1, api.OK},
		{1 << 33, 1 << 33, 5, 14757395258967641292, 4, api.OK, 14757395258967641293, api.OK},
	} {
		if down, rest, e := fixq.MulDiv(q.a, q.b, q.c); down != q.down || rest != q.rest || e != q.e {
			t.Errorf("%d: MulDiv(%d, %d, %d): %d, %d, %d", i, q.a, q.b, q.c, down, rest, e)
		}
		if up, e := fixq.Ceil(q.a, q.b, q.c); up != q.up || e != q.upE {
			t.Errorf("%d: Ceil(%d, %d, %d): %d, %d", i, q.a, q.b, q.c, up, e)
		}
	}
}

// checkQuotient holds P2.2, and P2.5 for the quotient and the rest, against numbers of any length.
func checkQuotient(t *testing.T, a, b, c uint64) {
	t.Helper()
	down, rest, e := fixq.MulDiv(a, b, c)
	up, upE := fixq.Ceil(a, b, c)
	if c == 0 {
		if down != 0 || rest != 0 || e != api.ErrArg || up != 0 || upE != api.ErrArg {
			t.Errorf("of %d, %d and 0: %d, %d, %d and %d, %d; want ErrArg", a, b, down, rest, e, up, upE)
		}
		return
	}
	wantDown, wantRest := new(big.Int).QuoRem(times(a, b), word(c), new(big.Int))
	wantUp := new(big.Int).Set(wantDown)
	if wantRest.Sign() > 0 {
		wantUp.Add(wantUp, big.NewInt(1))
	}
	if !wantDown.IsUint64() {
		if down != 0 || rest != 0 || e != api.ErrOver {
			t.Errorf("MulDiv(%d, %d, %d): %d, %d, %d; want ErrOver", a, b, c, down, rest, e)
		}
	} else {
		if e != api.OK || word(down).Cmp(wantDown) != 0 || word(rest).Cmp(wantRest) != 0 {
			t.Errorf("MulDiv(%d, %d, %d): %d, %d, %d; want %v, %v", a, b, c, down, rest, e, wantDown, wantRest)
		}
		back := times(down, c)
		if back.Add(back, word(rest)).Cmp(times(a, b)) != 0 || rest >= c {
			t.Errorf("MulDiv(%d, %d, %d): %d, %d does not lead back", a, b, c, down, rest)
		}
	}
	if !wantUp.IsUint64() {
		if up != 0 || upE != api.ErrOver {
			t.Errorf("Ceil(%d, %d, %d): %d, %d; want ErrOver", a, b, c, up, upE)
		}
	} else if upE != api.OK || word(up).Cmp(wantUp) != 0 {
		t.Errorf("Ceil(%d, %d, %d): %d, %d; want %v", a, b, c, up, upE, wantUp)
	}
}

func TestQuotients(t *testing.T) {
	for _, a := range words() {
		for _, b := range words() {
			for _, c := range words() {
				checkQuotient(t, a, b, c)
			}
		}
	}
	r := rand.New(rand.NewSource(2))
	for range 20000 {
		a, b := someWord(r), someWord(r)
		checkQuotient(t, a, b, someWord(r))
		// Divisors round the high word of the product lie round the place where the quotient leaves the word.
		high, _ := bits.Mul64(a, b)
		checkQuotient(t, a, b, high)
		checkQuotient(t, a, b, high+1)
	}
}

func TestKnownFractions(t *testing.T) {
	const top = math.MaxUint64
	type fractions struct {
		a, b, c, d uint64
		want       int
		e          api.Errno
	}
	for i, f := range []fractions{
		{1, 3, 2, 6, 0, api.OK},
		{1, 3, 2, 5, -1, api.OK},
		{2, 5, 1, 3, 1, api.OK},
		{0, 1, 0, top, 0, api.OK},
		{0, top, 0, 1, 0, api.OK},
		{0, 1, 1, top, -1, api.OK},
		{1, top, 0, 1, 1, api.OK},
		{top, top, 1, 1, 0, api.OK},
		{top, 1, top, 1, 0, api.OK},
		{top - 1, top, top - 2, top - 1, 1, api.OK},
		{top - 2, top - 1, top - 1, top, -1, api.OK},
		{1 << 63, 1 << 62, 2, 1, 0, api.OK},
		{1 << 40, 1, 1<<40 + 1, 1, -1, api.OK},
		// Products that differ in the high word alone, and in the low word alone.
		{1 << 33, 1, 1 << 32, 1 << 32, 1, api.OK},
		{1 << 32, 1 << 32, 1 << 33, 1, -1, api.OK},
		{1, 0, 1, 1, 0, api.ErrArg},
		{1, 1, 1, 0, 0, api.ErrArg},
		{0, 0, 0, 0, 0, api.ErrArg},
		{2, 1, 1, 0, 0, api.ErrArg},
	} {
		if got, e := fixq.Compare(f.a, f.b, f.c, f.d); got != f.want || e != f.e {
			t.Errorf("%d: Compare(%d, %d, %d, %d): %d, %d; want %d, %d", i, f.a, f.b, f.c, f.d, got, e, f.want, f.e)
		}
	}
}

// checkFractions holds P2.3 against products of any length.
func checkFractions(t *testing.T, a, b, c, d uint64) {
	t.Helper()
	got, e := fixq.Compare(a, b, c, d)
	if b == 0 || d == 0 {
		if got != 0 || e != api.ErrArg {
			t.Errorf("Compare(%d, %d, %d, %d): %d, %d; want ErrArg", a, b, c, d, got, e)
		}
		return
	}
	if want := times(a, d).Cmp(times(c, b)); got != want || e != api.OK {
		t.Errorf("Compare(%d, %d, %d, %d): %d, %d; want %d", a, b, c, d, got, e, want)
	}
}

func TestFractions(t *testing.T) {
	few := []uint64{0, 1, 2, 3, 6, 1 << 32, 1<<32 + 1, 1 << 63, math.MaxUint64 - 1, math.MaxUint64}
	for _, a := range few {
		for _, b := range few {
			for _, c := range few {
				for _, d := range few {
					checkFractions(t, a, b, c, d)
				}
			}
		}
	}
	r := rand.New(rand.NewSource(3))
	for range 20000 {
		a, b := someWord(r), someWord(r)
		checkFractions(t, a, b, someWord(r), someWord(r))
		checkFractions(t, a, b, a+1, b+1)
		// A fraction beside itself with greater terms.
		k := uint64(r.Intn(1000)) + 1
		checkFractions(t, a>>10, b>>10, a>>10*k, b>>10*k)
	}
}

// TestFractionsAreOrdered holds P2.5: sorted by Compare, each fraction is at most every later one.
func TestFractionsAreOrdered(t *testing.T) {
	type fraction struct{ a, b uint64 }
	compare := func(x, y fraction) int {
		got, e := fixq.Compare(x.a, x.b, y.a, y.b)
		if e != api.OK {
			t.Fatalf("Compare(%v, %v): %d", x, y, e)
		}
		return got
	}
	var list []fraction
	r := rand.New(rand.NewSource(4))
	for range 300 {
		list = append(list, fraction{someWord(r), someWord(r) | 1})
	}
	for _, a := range words()[:8] {
		for _, b := range words()[1:8] {
			list = append(list, fraction{a, b}, fraction{math.MaxUint64 - a, math.MaxUint64 - b})
		}
	}
	slices.SortFunc(list, compare)
	for i, x := range list {
		for _, y := range list[i:] {
			if compare(x, y) > 0 || compare(y, x) != -compare(x, y) {
				t.Errorf("%v and %v: %d, %d", x, y, compare(x, y), compare(y, x))
			}
		}
	}
}

func checkReduced(t *testing.T, a, b uint64) {
	t.Helper()
	want := new(big.Int).GCD(nil, nil, word(a), word(b))
	if got := fixq.Gcd(a, b); word(got).Cmp(want) != 0 {
		t.Errorf("Gcd(%d, %d): %d; want %v", a, b, got, want)
	}
	c, d, e := fixq.Reduce(a, b)
	if b == 0 {
		if c != 0 || d != 0 || e != api.ErrArg {
			t.Errorf("Reduce(%d, 0): %d, %d, %d; want ErrArg", a, c, d, e)
		}
		return
	}
	divisor := want.Uint64()
	if c != a/divisor || d != b/divisor || e != api.OK {
		t.Errorf("Reduce(%d, %d): %d, %d, %d", a, b, c, d, e)
	}
}

// TestReduced holds P2.4.
func TestReduced(t *testing.T) {
	for _, a := range words() {
		for _, b := range words() {
			checkReduced(t, a, b)
		}
	}
	r := rand.New(rand.NewSource(5))
	for range 5000 {
		a, b, k := someWord(r), someWord(r), someWord(r)
		checkReduced(t, a, b)
		checkReduced(t, a>>32*(k>>32), b>>32*(k>>32))
	}
}

func TestKnownDivisors(t *testing.T) {
	for _, d := range [][3]uint64{
		{0, 0, 0}, {0, 9, 9}, {9, 0, 9}, {12, 18, 6}, {18, 12, 6}, {7, 5, 1}, {1, math.MaxUint64, 1},
		{math.MaxUint64, math.MaxUint64, math.MaxUint64}, {0, math.MaxUint64, math.MaxUint64},
		{1 << 63, 1 << 40, 1 << 40}, {math.MaxUint64, 641, 641},
	} {
		if got := fixq.Gcd(d[0], d[1]); got != d[2] {
			t.Errorf("Gcd(%d, %d): %d; want %d", d[0], d[1], got, d[2])
		}
	}
	type reduced struct {
		a, b, c, d uint64
		e          api.Errno
	}
	for _, r := range []reduced{
		{12, 18, 2, 3, api.OK},
		{0, 7, 0, 1, api.OK},
		{7, 7, 1, 1, api.OK},
		{5, 1, 5, 1, api.OK},
		{math.MaxUint64, 1 << 63, math.MaxUint64, 1 << 63, api.OK},
		{1 << 63, 1 << 63, 1, 1, api.OK},
		{0, 0, 0, 0, api.ErrArg},
		{8, 0, 0, 0, api.ErrArg},
	} {
		if c, d, e := fixq.Reduce(r.a, r.b); c != r.c || d != r.d || e != r.e {
			t.Errorf("Reduce(%d, %d): %d, %d, %d", r.a, r.b, c, d, e)
		}
	}
}
