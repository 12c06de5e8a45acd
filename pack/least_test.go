package pack_test

import (
	"math"
	"math/rand"
	"slices"
	"testing"

	"dogwatch/api"
	"dogwatch/order"
	"dogwatch/pack"
)

// leastOf is the model of Least by the document's words and P20.3: cores are added until they have as many ticks as are wanted.
func leastOf(f int, l []want) (int, api.Errno) {
	if e := order.Check(f, l...); e != api.OK {
		return 0, e
	}
	cores := 1
	for cores*f < sumOf(l) {
		cores++
	}
	if cores > 16 {
		return 0, api.ErrFull
	}
	return cores, api.OK
}

// checkLeast holds P20.2 of Least for any frame and wants, and that Full agrees with it.
func checkLeast(t *testing.T, f int, l []want) (int, api.Errno) {
	t.Helper()
	before := slices.Clone(l)
	got, e := pack.Least(f, l...)
	if right, wrong := leastOf(f, l); got != right || e != wrong {
		t.Errorf("Least(%d, %v): %d, %d; want %d, %d", f, l, got, e, right, wrong)
	}
	if !slices.Equal(l, before) {
		t.Errorf("Least(%d, %v) left %v", f, before, l)
	}
	if e != api.OK {
		return got, e
	}
	for _, set := range coreSets(got) {
		if _, e := pack.Full(f, set, l...); e != api.OK || !pack.Fits(f, set, l...) {
			t.Errorf("Least(%d, %v): %d; but of %x Full is %d", f, l, got, set, e)
		}
	}
	if got == 1 {
		return got, e
	}
	for _, set := range coreSets(got - 1) {
		if _, e := pack.Full(f, set, l...); e != api.ErrFull || pack.Fits(f, set, l...) {
			t.Errorf("Least(%d, %v): %d; but of %x Full is %d", f, l, got, set, e)
		}
	}
	return got, e
}

// leastIs holds Least, and the model too, against the number that a test names.
func leastIs(t *testing.T, right int, f int, l ...want) {
	t.Helper()
	if got, e := checkLeast(t, f, l); got != right || e != api.OK {
		t.Errorf("Least(%d, %v): %d, %d; want %d", f, l, got, e, right)
	}
}

// leastFails holds Least, and the model too, against the error that a test names.
func leastFails(t *testing.T, wrong api.Errno, f int, l ...want) {
	t.Helper()
	if got, e := checkLeast(t, f, l); got != 0 || e != wrong {
		t.Errorf("Least(%d, %v): %d, %d; want 0, %d", f, l, got, e, wrong)
	}
}

// TestLeastNone holds P20.2 for no wants: one core is the least that a plan may have.
func TestLeastNone(t *testing.T) {
	for _, f := range []int{2, 3, 10, 63, 64} {
		leastIs(t, 1, f)
		leastIs(t, 1, f, []want{}...)
	}
}

// TestLeast holds P20.2 for wants that fit whole on as many cores as their sum needs, and for such that must be split there.
func TestLeast(t *testing.T) {
	leastIs(t, 1, 8, wantOf(200, 1))
	leastIs(t, 1, 8, wantOf(1040, 8))
	leastIs(t, 2, 8, shares(8, 1)...)
	leastIs(t, 2, 8, shares(5, 3, 5, 3)...)
	leastIs(t, 2, 4, shares(3, 3, 2)...)
	leastIs(t, 3, 4, shares(3, 3, 3)...)
	leastIs(t, 3, 10, shares(6, 6, 6, 6, 6)...)
	leastIs(t, 4, 10, shares(6, 6, 6, 6, 6, 1)...)
	leastIs(t, 4, 10, append(shares(1, 6, 6), wantOf(1001, 6), wantOf(1040, 6), wantOf(200, 6))...)
}

// TestLeastTotal holds P20.2 for wants that together have just the ticks of some cores, one fewer, and one more.
func TestLeastTotal(t *testing.T) {
	for _, f := range []int{2, 3, 10, 64} {
		for cores := 1; cores <= 16; cores++ {
			for share := 1; share <= f; share++ {
				sum := f * cores
				if sum/share > 80 {
					continue
				}
				leastIs(t, (sum+f-2)/f, f, shares(parts(sum-1, share)...)...)
				leastIs(t, cores, f, shares(parts(sum, share)...)...)
				if cores < 16 {
					leastIs(t, cores+1, f, shares(parts(sum+1, share)...)...)
					leastIs(t, cores+1, f, shares(append(parts(sum, share), 1)...)...)
				} else {
					leastFails(t, api.ErrFull, f, shares(parts(sum+1, share)...)...)
					leastFails(t, api.ErrFull, f, shares(append(parts(sum, share), 1)...)...)
				}
			}
		}
	}
}

// TestLeastNamed holds TestLeastTotal's edges with the numbers written out.
func TestLeastNamed(t *testing.T) {
	nines := slices.Repeat([]int{9}, 17)
	leastIs(t, 1, 10, shares(9)...)
	leastIs(t, 1, 10, shares(9, 1)...)
	leastIs(t, 2, 10, shares(9, 2)...)
	leastIs(t, 2, 10, shares(9, 9, 1)...)
	leastIs(t, 2, 10, shares(9, 9, 2)...)
	leastIs(t, 3, 10, shares(9, 9, 3)...)
	leastIs(t, 15, 10, shares(append(nines[:16:16], 5)...)...)
	leastIs(t, 15, 10, shares(append(nines[:16:16], 6)...)...)
	leastIs(t, 16, 10, shares(append(nines[:16:16], 7)...)...)
	leastIs(t, 16, 10, shares(append(nines, 6)...)...)
	leastIs(t, 16, 10, shares(append(nines, 7)...)...)
	leastFails(t, api.ErrFull, 10, shares(append(nines, 8)...)...)
	leastFails(t, api.ErrFull, 2, shares(slices.Repeat([]int{2}, 17)...)...)
	leastFails(t, api.ErrFull, 64, shares(append(slices.Repeat([]int{64}, 16), 1)...)...)
	leastFails(t, api.ErrFull, 64, shares(slices.Repeat([]int{64}, 240)...)...)
	leastFails(t, api.ErrFull, 2, shares(slices.Repeat([]int{1}, 33)...)...)
	leastIs(t, 16, 2, shares(slices.Repeat([]int{1}, 32)...)...)
	leastIs(t, 4, 64, shares(slices.Repeat([]int{1}, 240)...)...)
}

// TestLeastErrors holds P20.2 for each error of order.Check, also where more than sixteen cores would be needed.
func TestLeastErrors(t *testing.T) {
	for _, many := range [][]want{nil, shares(1, 4), shares(slices.Repeat([]int{8}, 16)...), shares(slices.Repeat([]int{8}, 17)...), shares(slices.Repeat([]int{8}, 30)...)} {
		for _, f := range wrongFrames {
			leastFails(t, api.ErrArg, f, many...)
			leastFails(t, api.ErrArg, f, slices.Concat(many, []want{wantOf(300, 1)})...)
		}
		for _, unit := range append([]int{0, 201, 1000, 1041, 2001}, farNumbers...) {
			leastFails(t, api.ErrID, 8, slices.Concat(many, []want{wantOf(unit, 8)})...)
			leastFails(t, api.ErrID, 8, slices.Concat([]want{wantOf(unit, 9)}, many)...)
		}
		for _, share := range append([]int{0, 9, 64, 65}, farNumbers...) {
			leastFails(t, api.ErrShare, 8, slices.Concat(many, []want{wantOf(150, share)})...)
			leastFails(t, api.ErrShare, 8, slices.Concat([]want{wantOf(150, share)}, many)...)
		}
		leastFails(t, api.ErrTwice, 8, slices.Concat(many, []want{wantOf(150, 8), wantOf(150, 1)})...)
		leastFails(t, api.ErrTwice, 8, slices.Concat([]want{wantOf(150, 8)}, many, []want{wantOf(150, 8)})...)
		for _, k := range faulty {
			for _, other := range faulty {
				leastFails(t, k.e, 8, slices.Concat(many[min(len(many), 9):], k.l, other.l)...)
			}
		}
	}
	// Shares that would run over to a small sum.
	leastFails(t, api.ErrShare, 8, wantOf(1, math.MaxInt), wantOf(2, math.MaxInt), wantOf(3, 2))
	leastFails(t, api.ErrTwice, 64, append(shares(slices.Repeat([]int{64}, 240)...), wantOf(7, 1))...)
}

// TestLeastAny holds P20.2 for any frames and wants, some of which may not be.
func TestLeastAny(t *testing.T) {
	rng := rand.New(rand.NewSource(203))
	needed, ended := map[int]int{}, map[api.Errno]int{}
	for range 3000 {
		f := someFrame(rng)
		l := someWants(rng, f, []int{f*rng.Intn(17) + rng.Intn(3) - 1, rng.Intn(f * 18)}[rng.Intn(2)])
		if rng.Intn(5) == 0 && len(l) > 0 {
			l[rng.Intn(len(l))].Share += rng.Intn(9) - 4
			l[rng.Intn(len(l))].Unit += []int{-1, 1, -1000, 1000}[rng.Intn(4)]
		}
		if rng.Intn(20) == 0 && len(l) > 0 {
			l = append(l, wantOf(l[rng.Intn(len(l))].Unit, 1))
		}
		if rng.Intn(30) == 0 {
			f = []int{-f, 0, 1, 65, f + 64}[rng.Intn(5)]
		}
		cores, e := checkLeast(t, f, l)
		needed[cores]++
		ended[e]++
	}
	for cores := range 17 {
		if needed[cores] < 30 {
			t.Error(needed)
		}
	}
	for _, e := range []api.Errno{api.OK, api.ErrArg, api.ErrID, api.ErrShare, api.ErrTwice, api.ErrFull} {
		if ended[e] < 50 {
			t.Error(ended)
		}
	}
}

// TestLeastMemory holds that a list's spare capacity is left as it is.
func TestLeastMemory(t *testing.T) {
	l := shares(1, 3, 2, 4, 4)
	leastIs(t, 2, 4, l[:3]...)
	leastIs(t, 3, 4, l[:4]...)
	leastFails(t, api.ErrShare, 3, l[:4]...)
	if !slices.Equal(l, shares(1, 3, 2, 4, 4)) {
		t.Error(l)
	}
}
