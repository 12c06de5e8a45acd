package ffd_test

import (
	"math/rand"
	"slices"
	"testing"

	"dogwatch/api"
	"dogwatch/ffd"
	"dogwatch/order"
)

// sure is the model of Sure for a frame, cores and wants that may be: the bound is counted up core by core.
func sure(f, cores int, l []want) bool {
	sum, greatest := 0, 0
	for _, w := range l {
		sum += w.Share
		if w.Share > greatest {
			greatest = w.Share
		}
	}
	bound := greatest
	for range cores {
		bound += f + 1 - greatest
	}
	return len(l) == 0 || sum < bound
}

// checkSure holds P18.3 for any frame, cores and wants.
func checkSure(t *testing.T, f, cores int, l []want) bool {
	t.Helper()
	right := order.Check(f, l...) == api.OK && cores >= 1 && cores <= 16 && sure(f, cores, l)
	before := slices.Clone(l)
	got := ffd.Sure(f, cores, l...)
	if got != right {
		t.Errorf("Sure(%d, %d, %v): %v; want %v", f, cores, l, got, right)
	}
	if !slices.Equal(l, before) {
		t.Errorf("Sure(%d, %d, %v) left %v", f, cores, before, l)
	}
	return got
}

// sureIs holds Sure, and the model too, against what a test names.
func sureIs(t *testing.T, right bool, f, cores int, l ...want) {
	t.Helper()
	if checkSure(t, f, cores, l) != right {
		t.Errorf("Sure(%d, %d, %v): %v", f, cores, l, !right)
	}
}

// shares are wants of these shares, of the units from 1 on, and of the groups' where the tasks do not suffice.
func shares(l ...int) []want {
	var wants []want
	for i, share := range l {
		unit := i + 1
		if unit > 200 {
			unit += 800
		}
		wants = append(wants, wantOf(unit, share))
	}
	return wants
}

// TestSure holds P18.3 for sums that are just below the bound, at it, and just above.
func TestSure(t *testing.T) {
	for _, k := range []struct {
		f, cores int
		below    []int
	}{
		// With one core the bound is f + 1.
		{2, 1, []int{2}}, {2, 1, []int{1, 1}}, {10, 1, []int{3, 7}}, {64, 1, []int{64}}, {64, 1, slices.Repeat([]int{1}, 64)},
		// With two it is 2f + 2 - a, a being the greatest share.
		{2, 2, []int{2, 1}}, {2, 2, []int{1, 1, 1, 1}}, {4, 2, []int{3, 3}}, {4, 2, []int{2, 3, 1}}, {8, 2, []int{4, 4, 4, 1}},
		{64, 2, []int{64, 1}}, {64, 2, []int{1, 32, 32, 32}}, {64, 2, slices.Repeat([]int{1}, 128)},
		// With three it is 3f + 3 - 2a.
		{6, 3, []int{5, 5}}, {6, 3, []int{3, 3, 2, 3, 3}},
		// With sixteen it is 16f + 16 - 15a.
		{2, 16, slices.Repeat([]int{1}, 32)}, {2, 16, []int{2, 2, 2, 1, 2, 2, 2, 2, 2}},
		{64, 16, []int{15, 64}}, {64, 16, []int{63, 31}}, {64, 16, append(slices.Repeat([]int{16}, 49), 15)},
	} {
		sureIs(t, true, k.f, k.cores, shares(k.below...)...)
		sureIs(t, false, k.f, k.cores, shares(append(k.below, 1)...)...)
		sureIs(t, false, k.f, k.cores, shares(append(k.below, 1, 1)...)...)
	}
	// The greatest share counts, wherever it is, and so does each share.
	for _, l := range permutations(shares(5, 1, 2, 2)) {
		sureIs(t, true, 7, 2, l...)
		sureIs(t, false, 7, 2, append(l, wantOf(9, 1))...)
		sureIs(t, false, 7, 2, append(l, wantOf(1040, 1))...)
	}
}

// permutations are all orders of wants.
func permutations(l []want) [][]want {
	if len(l) == 0 {
		return [][]want{nil}
	}
	var all [][]want
	for i, w := range l {
		for _, rest := range permutations(slices.Concat(l[:i], l[i+1:])) {
			all = append(all, append(rest, w))
		}
	}
	return all
}

// filled are shares whose sum is this, each but the last one being the same.
func filled(sum, share int) []int {
	l := slices.Repeat([]int{share}, sum/share)
	if sum%share > 0 {
		l = append(l, sum%share)
	}
	return l
}

// TestSureBounds holds P18.3 at the bound of each number of cores and each greatest share, and P18.5 below it.
func TestSureBounds(t *testing.T) {
	tried := 0
	for _, f := range []int{2, 3, 4, 7, 31, 64} {
		for cores := 1; cores <= 16; cores++ {
			for greatest := 1; greatest <= f; greatest++ {
				bound := cores*f + cores - (cores-1)*greatest
				if bound/greatest+2 > 240 {
					continue
				}
				tried++
				l := shares(filled(bound-1, greatest)...)
				sureIs(t, true, f, cores, l...)
				suffices(t, f, cores, l)
				sureIs(t, false, f, cores, shares(filled(bound, greatest)...)...)
				sureIs(t, false, f, cores, shares(filled(bound+1, greatest)...)...)
			}
		}
	}
	if tried < 1500 {
		t.Error(tried)
	}
}

// TestSureFew holds P18.3 for no wants and for one.
func TestSureFew(t *testing.T) {
	for _, f := range []int{2, 3, 10, 63, 64} {
		for cores := 1; cores <= 16; cores++ {
			sureIs(t, true, f, cores)
			sureIs(t, true, f, cores, []want{}...)
			for share := 1; share <= f; share++ {
				sureIs(t, true, f, cores, wantOf(200, share))
				sureIs(t, true, f, cores, wantOf(1040, share))
			}
		}
	}
}

// TestSureWrong holds P18.3 for numbers of cores that none has, and for each error of order.Check.
func TestSureWrong(t *testing.T) {
	good := shares(1, 2, 1)
	sureIs(t, true, 4, 16, good...)
	for _, cores := range append([]int{0, 17, 18, 32}, farNumbers...) {
		sureIs(t, false, 4, cores)
		sureIs(t, false, 4, cores, good[0])
		sureIs(t, false, 4, cores, good...)
		sureIs(t, false, 64, cores, shares(64, 64)...)
	}
	for _, f := range append([]int{0, 1, 65, 66, 128}, farNumbers...) {
		for _, cores := range []int{-1, 0, 1, 2, 16, 17} {
			sureIs(t, false, f, cores)
			sureIs(t, false, f, cores, good[0])
			sureIs(t, false, f, cores, good...)
		}
	}
	var wrong []want
	for _, unit := range append([]int{0, 201, 1000, 1041}, farNumbers...) {
		wrong = append(wrong, wantOf(unit, 1))
	}
	for _, share := range append([]int{0, 5, 65}, farNumbers...) {
		wrong = append(wrong, wantOf(9, share))
	}
	wrong = append(wrong, good...)
	for _, w := range wrong {
		for at := range 4 {
			sureIs(t, false, 4, 16, slices.Insert(slices.Clone(good), at, w)...)
		}
	}
	for _, w := range wrong[:len(wrong)-len(good)] {
		sureIs(t, false, 4, 16, w)
		sureIs(t, false, 4, 1, w)
	}
	// Shares that would run over to a small sum.
	sureIs(t, false, 4, 2, wantOf(1, farNumbers[len(farNumbers)-1]), wantOf(2, farNumbers[len(farNumbers)-1]), wantOf(3, 2))
	// More wants than there are units.
	sureIs(t, false, 64, 16, append(shares(slices.Repeat([]int{1}, 240)...), wantOf(7, 1))...)
	sureIs(t, true, 64, 16, shares(slices.Repeat([]int{1}, 240)...)...)
}

// TestSureMemory holds that a list's spare capacity is left as it is.
func TestSureMemory(t *testing.T) {
	l := shares(1, 3, 2, 4, 4)
	sureIs(t, true, 8, 2, l[:3]...)
	if !slices.Equal(l, shares(1, 3, 2, 4, 4)) {
		t.Error(l)
	}
}

// someWants are wants of different units that a frame may have, often great ones.
func someWants(rng *rand.Rand, f, most int) []want {
	var l []want
	top := 1 + rng.Intn(f)
	for range rng.Intn(most) {
		w := wantOf(someUnit(rng), 1+rng.Intn(top))
		if !slices.ContainsFunc(l, func(x want) bool { return x.Unit == w.Unit }) {
			l = append(l, w)
		}
	}
	return l
}

// TestSureAny holds P18.3 and P18.5 for any wants.
func TestSureAny(t *testing.T) {
	rng := rand.New(rand.NewSource(183))
	yes, no := 0, 0
	for range 20000 {
		f := 2 + rng.Intn(1+rng.Intn(63))
		cores := 1 + rng.Intn(16)
		l := someWants(rng, f, 2+rng.Intn(1+4*cores))
		if checkSure(t, f, cores, l) {
			yes++
			suffices(t, f, cores, l)
		} else {
			no++
		}
	}
	if yes < 2000 || no < 2000 {
		t.Error(yes, no)
	}
}
