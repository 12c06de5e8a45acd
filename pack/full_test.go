package pack_test

import (
	"math"
	"math/rand"
	"slices"
	"testing"

	"dogwatch/api"
	"dogwatch/ffd"
	"dogwatch/pack"
)

// TestFullNone holds P20.1 for no wants: the plan without places.
func TestFullNone(t *testing.T) {
	for _, f := range []int{2, 3, 10, 63, 64} {
		for _, cores := range []uint32{1, 1 << 15, 3, 0x8001, 0b1010100, 0xffff} {
			fullIs(t, f, cores, nil)
			fullIs(t, f, cores, []want{})
		}
	}
}

// TestFullWhole holds P20.1 for wants that all fit whole, each on the first core with room, the greatest first.
func TestFullWhole(t *testing.T) {
	fullIs(t, 8, 7, shares(5), whole(1, 5, 0))
	fullIs(t, 8, 7, shares(5, 4, 3, 3), whole(1, 5, 0), whole(2, 4, 1), whole(3, 3, 0), whole(4, 3, 1))
	fullIs(t, 8, 7, shares(3, 3, 4, 5, 6, 1, 2), whole(5, 6, 0), whole(4, 5, 1), whole(3, 4, 2), whole(1, 3, 1), whole(2, 3, 2), whole(7, 2, 0), whole(6, 1, 2))
	fullIs(t, 8, 7, shares(8, 8, 8), whole(1, 8, 0), whole(2, 8, 1), whole(3, 8, 2))
	fullIs(t, 8, 7, shares(1, 8, 1), whole(2, 8, 0), whole(1, 1, 1), whole(3, 1, 1))
	// In the given order, or the other way round, one of them would be left over.
	fullIs(t, 6, 3, shares(2, 3, 2, 3, 2), whole(2, 3, 0), whole(4, 3, 0), whole(1, 2, 1), whole(3, 2, 1), whole(5, 2, 1))
	fullIs(t, 10, 3, shares(4, 4, 6, 6), whole(3, 6, 0), whole(4, 6, 1), whole(1, 4, 0), whole(2, 4, 1))
	fullIs(t, 4, 3, []want{wantOf(1001, 2), wantOf(200, 2), wantOf(7, 2), wantOf(1040, 2)}, whole(7, 2, 0), whole(200, 2, 0), whole(1001, 2, 1), whole(1040, 2, 1))
}

// TestFullSplit holds P20.1 for wants some of which are split, with whole ones below, between and above them.
func TestFullSplit(t *testing.T) {
	fullIs(t, 4, 3, shares(3, 3, 2), whole(1, 3, 0), whole(2, 3, 1), split(3, 2, at(0, 0), at(1, 1)))
	// A smaller one than that which is left over is placed ahead of it, and takes from its room.
	fullIs(t, 8, 7, shares(5, 5, 5, 4, 3), whole(1, 5, 0), whole(2, 5, 1), whole(3, 5, 2), whole(5, 3, 0), split(4, 4, at(1, 0, 1, 2), at(2, 3)))
	fullIs(t, 8, 7, shares(1, 5, 4, 5, 3, 5, 1),
		whole(2, 5, 0), whole(4, 5, 1), whole(6, 5, 2), whole(5, 3, 0), whole(1, 1, 1), whole(7, 1, 1), split(3, 4, at(1, 0), at(2, 1, 2, 3)))
	// Two of them, the greater one first, and of equal shares the less unit.
	fullIs(t, 9, 7, shares(4, 6, 6, 5, 6), whole(2, 6, 0), whole(3, 6, 1), whole(5, 6, 2), split(4, 5, at(0, 0, 1, 2), at(1, 3, 4)), split(1, 4, at(1, 5), at(2, 6, 7, 8)))
	fullIs(t, 10, 7, []want{wantOf(1009, 4), wantOf(7, 4), wantOf(1040, 7), wantOf(9, 7), wantOf(200, 7)},
		whole(9, 7, 0), whole(200, 7, 1), whole(1040, 7, 2), split(7, 4, at(0, 0, 1, 2), at(1, 3)), split(1009, 4, at(1, 4, 5), at(2, 6, 7)))
	// A core without room between two others.
	fullIs(t, 6, 7, shares(5, 5, 6, 2), whole(3, 6, 0), whole(1, 5, 1), whole(2, 5, 2), split(4, 2, at(1, 0), at(2, 1)))
	fullIs(t, 6, 15, shares(4, 4, 4, 4, 3, 2), whole(1, 4, 0), whole(2, 4, 1), whole(3, 4, 2), whole(4, 4, 3), whole(6, 2, 0), split(5, 3, at(1, 0, 1), at(2, 2)))
	fullIs(t, 6, 7, shares(5, 4, 5, 2, 2), whole(1, 5, 0), whole(3, 5, 1), whole(2, 4, 2), whole(4, 2, 2), split(5, 2, at(0, 0), at(1, 1)))
}

// TestFullMost holds P20.1 and P20.4 for wants of which all but one a core are split.
func TestFullMost(t *testing.T) {
	fullIs(t, 3, 3, shares(2, 2, 2), whole(1, 2, 0), whole(2, 2, 1), split(3, 2, at(0, 0), at(1, 1)))
	fullIs(t, 5, 7, shares(3, 3, 3, 3, 3), whole(1, 3, 0), whole(2, 3, 1), whole(3, 3, 2), split(4, 3, at(0, 0, 1), at(1, 2)), split(5, 3, at(1, 3), at(2, 4, 0)))
	fullIs(t, 7, 15, shares(4, 4, 4, 4, 4, 4, 4), whole(1, 4, 0), whole(2, 4, 1), whole(3, 4, 2), whole(4, 4, 3),
		split(5, 4, at(0, 0, 1, 2), at(1, 3)), split(6, 4, at(1, 4, 5), at(2, 6, 0)), split(7, 4, at(2, 1), at(3, 2, 3, 4)))
	// Two shares of s exceed a frame of 2s - 1, so that no core has two whole units; with s cores all ticks are used.
	for cores := 1; cores <= 16; cores++ {
		for _, s := range []int{max(cores, 2), 17, 32} {
			got := checkFull(t, 2*s-1, 1<<cores-1, shares(slices.Repeat([]int{s}, 2*cores-1)...))
			if len(got.Places) != 2*cores-1 {
				t.Fatal(got)
			}
			for i, x := range got.Places {
				if len(x.Pieces) > 0 != (i >= cores) {
					t.Errorf("%d cores: %v", cores, got)
				}
			}
		}
	}
}

// coreSets are some sets of this many cores: the lowest ones, the highest ones, and some with gaps between.
func coreSets(cores int) []uint32 {
	var gaps uint32
	for _, core := range []int{15, 0, 7, 3, 11, 1, 13, 5, 9, 2, 14, 6, 10, 4, 12, 8}[:cores] {
		gaps |= 1 << core
	}
	low := uint32(1)<<cores - 1
	return []uint32{low, low << (16 - cores), gaps}
}

// parts are shares of this sum, each but the last one being the same.
func parts(sum, share int) []int {
	l := slices.Repeat([]int{share}, sum/share)
	if sum%share > 0 {
		l = append(l, sum%share)
	}
	return l
}

// TestFullTotal holds P20.1 and P20.3 for wants that together have just all ticks, one fewer and one more.
func TestFullTotal(t *testing.T) {
	fullIs(t, 5, 6, shares(4, 3, 2, 1), whole(1, 4, 1), whole(2, 3, 2), whole(3, 2, 2), whole(4, 1, 1))
	fullIs(t, 5, 6, shares(4, 3, 3), whole(1, 4, 1), whole(2, 3, 2), split(3, 3, at(1, 0), at(2, 1, 2)))
	fullIs(t, 5, 6, shares(4, 3, 2), whole(1, 4, 1), whole(2, 3, 2), whole(3, 2, 2))
	fullIs(t, 5, 6, shares(3, 3, 3), whole(1, 3, 1), whole(2, 3, 2), split(3, 3, at(1, 0, 1), at(2, 2)))
	fails(t, api.ErrFull, 5, 6, shares(4, 4, 3)...)
	fails(t, api.ErrFull, 5, 6, shares(4, 3, 3, 1)...)
	fails(t, api.ErrFull, 5, 6, shares(1, 5, 5)...)
	for _, f := range []int{2, 3, 10, 64} {
		for cores := 1; cores <= 16; cores++ {
			for share := 1; share <= f; share++ {
				checkTotal(t, f, cores, share)
			}
		}
	}
}

// checkTotal is TestFullTotal for units of one share, but for one of them.
func checkTotal(t *testing.T, f, cores, share int) {
	t.Helper()
	sum := f * cores
	if sum/share > 80 {
		return
	}
	for _, set := range coreSets(cores) {
		checkFull(t, f, set, shares(parts(sum-1, share)...))
		checkFull(t, f, set, shares(parts(sum, share)...))
		fails(t, api.ErrFull, f, set, shares(parts(sum+1, share)...)...)
		fails(t, api.ErrFull, f, set, shares(append(parts(sum, share), 1)...)...)
	}
}

// TestFullOne holds P20.1 for one core, each of the sixteen: no unit is split.
func TestFullOne(t *testing.T) {
	for core := range 16 {
		for _, f := range []int{2, 10, 64} {
			fullIs(t, f, 1<<core, shares(f), whole(1, f, core))
			fullIs(t, f, 1<<core, []want{wantOf(1040, 1), wantOf(200, f-1)}, whole(200, f-1, core), whole(1040, 1, core))
			checkFull(t, f, 1<<core, shares(slices.Repeat([]int{1}, f-1)...))
			checkFull(t, f, 1<<core, shares(slices.Repeat([]int{1}, f)...))
			fails(t, api.ErrFull, f, 1<<core, shares(f, 1)...)
			fails(t, api.ErrFull, f, 1<<core, shares(slices.Repeat([]int{1}, f+1)...)...)
		}
	}
	fullIs(t, 10, 1<<15, shares(2, 5, 3), whole(1, 2, 15), whole(2, 5, 15), whole(3, 3, 15))
	fails(t, api.ErrFull, 10, 1<<15, shares(2, 5, 3, 1)...)
}

// TestFullGaps holds P20.1 for cores that are not next to each other.
func TestFullGaps(t *testing.T) {
	set := uint32(1<<1 | 1<<3 | 1<<15)
	fullIs(t, 8, set, shares(5, 5, 5, 4, 3, 1, 1),
		whole(1, 5, 1), whole(2, 5, 3), whole(3, 5, 15), whole(5, 3, 1), whole(6, 1, 3), whole(7, 1, 3), split(4, 4, at(3, 0), at(15, 1, 2, 3)))
	fullIs(t, 5, set, shares(3, 3, 3, 3, 3), whole(1, 3, 1), whole(2, 3, 3), whole(3, 3, 15), split(4, 3, at(1, 0, 1), at(3, 2)), split(5, 3, at(3, 3), at(15, 4, 0)))
	fails(t, api.ErrFull, 5, set, shares(3, 3, 3, 3, 3, 1)...)
	fullIs(t, 2, 0x8001, shares(1, 1, 1, 1), whole(1, 1, 0), whole(2, 1, 0), whole(3, 1, 15), whole(4, 1, 15))
	fullIs(t, 3, 0x8001, shares(2, 2, 2), whole(1, 2, 0), whole(2, 2, 15), split(3, 2, at(0, 0), at(15, 1)))
	fullIs(t, 3, 0x5000, shares(2, 2, 2), whole(1, 2, 12), whole(2, 2, 14), split(3, 2, at(12, 0), at(14, 1)))
}

// TestFullFrames holds P20.1 for the smallest and the greatest frame, and for units of the whole frame.
func TestFullFrames(t *testing.T) {
	fullIs(t, 2, 3, shares(1, 2, 1), whole(2, 2, 0), whole(1, 1, 1), whole(3, 1, 1))
	fullIs(t, 2, 3, shares(2, 2), whole(1, 2, 0), whole(2, 2, 1))
	fails(t, api.ErrFull, 2, 3, shares(2, 2, 1)...)
	low, high := piece{Core: 0, Ticks: 1<<24 - 1}, piece{Core: 1, Ticks: 1<<40 - 1<<24}
	fullIs(t, 64, 3, shares(40, 40, 40), whole(1, 40, 0), whole(2, 40, 1), split(3, 40, low, high))
	fullIs(t, 64, 7, shares(38, 38, 38, 38, 38), whole(1, 38, 0), whole(2, 38, 1), whole(3, 38, 2),
		split(4, 38, piece{Core: 0, Ticks: 1<<26 - 1}, piece{Core: 1, Ticks: 1<<38 - 1<<26}),
		split(5, 38, piece{Core: 1, Ticks: 1<<52 - 1<<38}, piece{Core: 2, Ticks: math.MaxUint64&^(1<<52-1) | 1<<12 - 1}))
	for _, f := range []int{2, 64} {
		for _, cores := range []int{1, 2, 16} {
			full := slices.Repeat([]int{f}, cores)
			for _, set := range coreSets(cores) {
				var placed []place
				for core := range 16 {
					if set>>core%2 == 1 {
						placed = append(placed, whole(1+len(placed), f, core))
					}
				}
				fullIs(t, f, set, shares(full...), placed...)
				fullIs(t, f, set, shares(full[1:]...), placed[:cores-1]...)
				fails(t, api.ErrFull, f, set, shares(append(full, 1)...)...)
				fails(t, api.ErrFull, f, set, shares(append(full, f)...)...)
			}
		}
	}
}

// TestFullSixteen holds P20.1 for all sixteen cores, and as many units as there may be.
func TestFullSixteen(t *testing.T) {
	for _, share := range []int{1, 4} {
		var placed []place
		for i := range 240 {
			placed = append(placed, whole(nth(i), share, i*share/64))
		}
		fullIs(t, 64, 0xffff, shares(slices.Repeat([]int{share}, 240)...), placed...)
	}
	fails(t, api.ErrFull, 64, 0xffff, shares(slices.Repeat([]int{5}, 240)...)...)
	fails(t, api.ErrFull, 64, 0xffff, shares(slices.Repeat([]int{64}, 240)...)...)
}

// TestFullPieces holds P20.1 for units that come to lie on two cores, on three, and on all sixteen.
func TestFullPieces(t *testing.T) {
	fullIs(t, 10, 7, shares(8, 8, 8, 3), whole(1, 8, 0), whole(2, 8, 1), whole(3, 8, 2), split(4, 3, at(0, 0, 1), at(1, 2)))
	fullIs(t, 10, 7, shares(8, 8, 8, 4), whole(1, 8, 0), whole(2, 8, 1), whole(3, 8, 2), split(4, 4, at(0, 0, 1), at(1, 2, 3)))
	fullIs(t, 10, 7, shares(8, 8, 8, 5), whole(1, 8, 0), whole(2, 8, 1), whole(3, 8, 2), split(4, 5, at(0, 0, 1), at(1, 2, 3), at(2, 4)))
	fullIs(t, 10, 7, shares(8, 8, 8, 6), whole(1, 8, 0), whole(2, 8, 1), whole(3, 8, 2), split(4, 6, at(0, 0, 1), at(1, 2, 3), at(2, 4, 5)))
	for _, k := range []struct{ f, busy, share int }{{17, 16, 16}, {32, 31, 16}, {64, 61, 46}, {64, 61, 48}, {51, 48, 48}} {
		room, x := k.f-k.busy, split(17, k.share)
		l, placed := []want{wantOf(17, k.share)}, []place{}
		for core := range 16 {
			l = append(l, wantOf(1+core, k.busy))
			placed = append(placed, whole(1+core, k.busy, core))
			var ticks []int
			for tick := core * room; tick < min(core*room+room, k.share); tick++ {
				ticks = append(ticks, tick)
			}
			x.Pieces = append(x.Pieces, at(core, ticks...))
		}
		fullIs(t, k.f, 0xffff, l, append(placed, x)...)
	}
}

// permutations are all orders of wants.
func permutations(l []want) [][]want {
	if len(l) == 0 {
		return [][]want{nil}
	}
	var all [][]want
	for i, w := range l {
		for _, rest := range permutations(slices.Concat(l[:i], l[i+1:])) {
			all = append(all, append(rest, w))
		}
	}
	return all
}

// TestFullOrder holds P20.5, and P20.1 for wants out of their order and with equal Shares: each order of them leads to the same plan.
func TestFullOrder(t *testing.T) {
	for _, l := range permutations([]want{wantOf(1, 6), wantOf(2, 6), wantOf(3, 6), wantOf(4, 6), wantOf(5, 6)}) {
		fullIs(t, 10, 7, l, whole(1, 6, 0), whole(2, 6, 1), whole(3, 6, 2), split(4, 6, at(0, 0, 1, 2, 3), at(1, 4, 5)), split(5, 6, at(1, 6, 7), at(2, 8, 9, 0, 1)))
	}
	for _, l := range permutations([]want{wantOf(1009, 4), wantOf(7, 4), wantOf(1040, 7), wantOf(9, 7), wantOf(200, 7), wantOf(1, 1)}) {
		fullIs(t, 10, 7, l, whole(9, 7, 0), whole(200, 7, 1), whole(1040, 7, 2), whole(1, 1, 0), split(7, 4, at(0, 0, 1), at(1, 2, 3)), split(1009, 4, at(1, 4), at(2, 5, 6, 7)))
	}
	for _, l := range permutations([]want{wantOf(1, 2), wantOf(2, 3), wantOf(3, 2), wantOf(4, 3), wantOf(5, 2)}) {
		fullIs(t, 6, 3, l, whole(2, 3, 0), whole(4, 3, 0), whole(1, 2, 1), whole(3, 2, 1), whole(5, 2, 1))
	}
	for _, l := range permutations([]want{wantOf(1, 1), wantOf(3, 6), wantOf(5, 6), wantOf(9, 1)}) {
		fails(t, api.ErrFull, 6, 0x8001, append(l, wantOf(1001, 1))...)
	}
}

// TestFullSure holds P20.4 for wants at the bound of Sure, for each number of cores and each greatest share.
func TestFullSure(t *testing.T) {
	sure := 0
	for _, f := range []int{2, 3, 7, 31, 64} {
		for cores := 1; cores <= 16; cores++ {
			for share := 1; share <= f; share++ {
				bound := min(cores*f+cores-(cores-1)*share, cores*f)
				if bound/share > 80 {
					continue
				}
				for _, sum := range []int{bound - 1, bound} {
					l := shares(parts(sum, share)...)
					if ffd.Sure(f, cores, l...) {
						sure++
					}
					for _, set := range coreSets(cores) {
						checkFull(t, f, set, l)
					}
				}
			}
		}
	}
	if sure < 1200 {
		t.Error(sure)
	}
}

// TestFullErrors holds P20.1 for each error alone.
func TestFullErrors(t *testing.T) {
	for _, f := range wrongFrames {
		for _, cores := range []uint32{1, 7, 0x8001, 0xffff} {
			fails(t, api.ErrPlan, f, cores)
			fails(t, api.ErrPlan, f, cores, shares(1, 1)...)
		}
	}
	for _, cores := range wrongCores() {
		for _, f := range []int{2, 8, 64} {
			fails(t, api.ErrPlan, f, cores)
			fails(t, api.ErrPlan, f, cores, shares(1, 1)...)
		}
	}
	for _, unit := range append([]int{0, 201, 1000, 1041, 2001}, farNumbers...) {
		fails(t, api.ErrID, 8, 3, wantOf(unit, 1))
		fails(t, api.ErrID, 8, 3, wantOf(5, 2), wantOf(unit, 1), wantOf(6, 1))
	}
	for _, share := range append([]int{0, 9, 64, 65}, farNumbers...) {
		fails(t, api.ErrShare, 8, 3, wantOf(5, share))
		fails(t, api.ErrShare, 8, 3, wantOf(5, 2), wantOf(6, 1), wantOf(7, share))
	}
	fails(t, api.ErrTwice, 8, 3, wantOf(5, 2), wantOf(5, 2))
	fails(t, api.ErrTwice, 8, 3, wantOf(5, 2), wantOf(6, 2), wantOf(5, 1))
	fails(t, api.ErrFull, 8, 3, shares(8, 8, 1)...)
	fails(t, api.ErrFull, 8, 3, shares(1, 5, 5, 6)...)
}

// faulty are the errors of the wants themselves, each alone.
var faulty = []struct {
	e api.Errno
	l []want
}{
	{api.ErrID, []want{wantOf(300, 1)}},
	{api.ErrShare, []want{wantOf(7, 9)}},
	{api.ErrTwice, []want{wantOf(8, 1), wantOf(8, 1)}},
}

// TestFullPairs holds P20.1 for errors at once, each pair of them and all three: which one is named, however the wants are ordered.
func TestFullPairs(t *testing.T) {
	tooMuch := shares(8, 7, 6)
	for _, k := range faulty {
		l := slices.Concat(tooMuch, k.l)
		back := slices.Concat(k.l, tooMuch)
		fails(t, k.e, 8, 3, l...)
		fails(t, k.e, 8, 3, back...)
		for _, f := range wrongFrames {
			for _, wants := range [][]want{k.l, tooMuch, l, back} {
				fails(t, api.ErrPlan, f, 3, wants...)
			}
		}
		for _, cores := range wrongCores() {
			for _, wants := range [][]want{k.l, tooMuch, l, back, shares(slices.Repeat([]int{8}, 33)...)} {
				fails(t, api.ErrPlan, 8, cores, wants...)
				fails(t, api.ErrPlan, 1, cores, wants...)
			}
		}
	}
}

// TestFullWants holds P20.1 for several errors of the wants themselves: that of the first want that has any, and of that want the first.
func TestFullWants(t *testing.T) {
	for _, k := range faulty {
		for _, other := range faulty {
			fails(t, k.e, 8, 1, slices.Concat(k.l, other.l)...)
			fails(t, k.e, 8, 1, slices.Concat(shares(8, 8), k.l, other.l)...)
		}
	}
	fails(t, api.ErrID, 8, 1, wantOf(300, 9))
	fails(t, api.ErrID, 8, 1, wantOf(5, 1), wantOf(0, 0), wantOf(0, 1))
	fails(t, api.ErrShare, 8, 1, wantOf(5, 1), wantOf(5, 9))
	fails(t, api.ErrShare, 8, 1, wantOf(1, 9), wantOf(300, 1))
	fails(t, api.ErrTwice, 8, 1, wantOf(1, 1), wantOf(1, 1), wantOf(2, 9))
	// Shares that would run over to a small sum, and more wants than there are units.
	fails(t, api.ErrShare, 8, 1, wantOf(1, math.MaxInt), wantOf(2, math.MaxInt), wantOf(3, 2))
	fails(t, api.ErrTwice, 64, 0xffff, append(shares(slices.Repeat([]int{1}, 240)...), wantOf(7, 1))...)
}

// digits are n numbers from 0 to base - 1, another row for each code.
func digits(code, base, n int) []int {
	var l []int
	for range n {
		l = append(l, code%base)
		code /= base
	}
	return l
}

func power(base, n int) int { return int(math.Pow(float64(base), float64(n))) }

// TestFullSmall holds P20.1 to P20.5 for all shares of a few units on a few cores, in small frames.
func TestFullSmall(t *testing.T) {
	for f := 2; f <= 5; f++ {
		for n := range 8 {
			if power(f, n) > 20000 {
				continue
			}
			for code := range power(f, n) {
				l := shares(digits(code, f, n)...)
				for i := range l {
					l[i].Share++
				}
				for _, cores := range []uint32{1, 1 << 15, 3, 1<<1 | 1<<3, 7, 1<<2 | 1<<3 | 1<<15} {
					checkFull(t, f, cores, l)
				}
				checkLeast(t, f, l)
			}
		}
	}
}

// someUnit is the number of a task or, more seldom, of a group.
func someUnit(rng *rand.Rand) int {
	if rng.Intn(3) == 0 {
		return 1001 + rng.Intn(40)
	}
	return 1 + rng.Intn(200)
}

// someWants are wants in any order that together have so many ticks, if the units suffice.
func someWants(rng *rand.Rand, f, sum int) []want {
	var l []want
	least := rng.Intn(f)
	greatest := 1 + rng.Intn(f-least)
	for _, i := range rng.Perm(240) {
		if sum <= 0 {
			break
		}
		w := wantOf(nth(i), min(sum, least+1+rng.Intn(greatest)))
		l = append(l, w)
		sum -= w.Share
	}
	return l
}

// someFrame is a frame, often a small one, and someCores a set of cores, often with few of them.
func someFrame(rng *rand.Rand) int { return 2 + rng.Intn(1+rng.Intn(63)) }

func someCores(rng *rand.Rand) uint32 {
	cores := uint32(1 + rng.Intn(1<<16-1))
	for range rng.Intn(3) {
		if less := cores & uint32(rng.Intn(1<<16)); less != 0 {
			cores = less
		}
	}
	return cores
}

// TestFullAny holds P20.1 to P20.5 for any frames, cores and wants, some of which may not be; many fill all ticks, or all but a few.
func TestFullAny(t *testing.T) {
	rng := rand.New(rand.NewSource(201))
	splits, pieces, full, sure, ended := 0, 0, 0, 0, map[api.Errno]int{}
	for range 12000 {
		f, cores := someFrame(rng), someCores(rng)
		all := f * countOf(cores)
		l := someWants(rng, f, all+[]int{-rng.Intn(all), 1 - rng.Intn(4)}[rng.Intn(2)])
		if rng.Intn(5) == 0 && len(l) > 0 {
			l[rng.Intn(len(l))].Share += rng.Intn(9) - 4
			l[rng.Intn(len(l))].Unit += []int{-1, 1, -1000, 1000}[rng.Intn(4)]
		}
		if rng.Intn(20) == 0 && len(l) > 0 {
			l = append(l, wantOf(l[rng.Intn(len(l))].Unit, 1))
		}
		if rng.Intn(30) == 0 {
			f = []int{-f, 0, 1, 65, f + 64}[rng.Intn(5)]
		}
		if rng.Intn(30) == 0 {
			cores = []uint32{0, cores << 16, cores | 1<<16, cores | 1<<31}[rng.Intn(4)]
		}
		got := checkFull(t, f, cores, l)
		e := errorOf(f, cores, l)
		ended[e]++
		if e == api.OK && sumOf(l) == f*countOf(cores) {
			full++
		}
		if e == api.OK && ffd.Sure(f, countOf(cores), l...) {
			sure++
		}
		for _, x := range got.Places {
			splits += min(len(x.Pieces), 1)
			pieces += max(len(x.Pieces)-2, 0)
		}
	}
	if splits < 3000 || pieces < 500 || full < 500 || sure < 500 {
		t.Error(splits, pieces, full, sure)
	}
	for _, e := range []api.Errno{api.OK, api.ErrPlan, api.ErrID, api.ErrShare, api.ErrTwice, api.ErrFull} {
		if ended[e] < 100 {
			t.Error(ended)
		}
	}
}

// TestFullShuffled holds P20.5 for any wants in any order.
func TestFullShuffled(t *testing.T) {
	rng := rand.New(rand.NewSource(202))
	for range 3000 {
		f, cores := someFrame(rng), someCores(rng)
		l := someWants(rng, f, f*countOf(cores)-rng.Intn(2))
		right, e := pack.Full(f, cores, l...)
		rng.Shuffle(len(l), func(i, j int) { l[i], l[j] = l[j], l[i] })
		if got, other := pack.Full(f, cores, l...); other != e || !samePlan(got, right) {
			t.Errorf("Full(%d, %x, %v): %v, %d; in another order %v, %d", f, cores, l, got, other, right, e)
		}
	}
}

// spoil changes all of a plan's memory, its spare capacity too.
func spoil(p api.Plan) {
	for i, x := range p.Places[:cap(p.Places)] {
		for j := range x.Pieces[:cap(x.Pieces)] {
			x.Pieces[:cap(x.Pieces)][j] = piece{Core: 91, Ticks: 92}
		}
		p.Places[:cap(p.Places)][i] = whole(93, 94, 95)
	}
}

// TestFullMemory holds that no argument is changed or kept, and that results are memory of their own, whatever is placed.
func TestFullMemory(t *testing.T) {
	for _, wants := range [][]want{
		nil, shares(3), shares(2, 8, 3), shares(6, 6, 6, 6), shares(2, 7, 7, 7), shares(5, 5, 5, 5, 4), []want{wantOf(1040, 8), wantOf(200, 1), wantOf(1, 8)},
	} {
		l := append(slices.Clone(wants), wantOf(98, 99), wantOf(100, 101))
		args := slices.Clone(l)
		got, _ := pack.Full(8, 7, l[:len(wants)]...)
		other, _ := pack.Full(8, 7, l[:len(wants)]...)
		right := fullOf(8, 7, wants)
		spoil(got)
		if !slices.Equal(l, args) || !pack.Fits(8, 7, l[:len(wants)]...) || !slices.Equal(l, args) {
			t.Errorf("Full or Fits of %v left %v", wants, l)
		}
		if later, _ := pack.Full(8, 7, l[:len(wants)]...); !samePlan(other, right) || !samePlan(later, right) {
			t.Errorf("Full(%v) shares memory with another: %v, %v", wants, other, later)
		}
		for i := range l {
			l[i] = wantOf(96, 97)
		}
		if !samePlan(other, right) {
			t.Errorf("Full(%v) keeps arguments: %v", wants, other)
		}
		// What is appended to the pieces of one place is not in another one.
		for _, x := range other.Places {
			_ = append(x.Pieces, at(81, 3))
		}
		if !samePlan(other, right) {
			t.Errorf("Full(%v) shares memory within: %v", wants, other)
		}
	}
}

// TestFullErrorMemory holds that no argument is changed beside an error, and that an error leaves no trace.
func TestFullErrorMemory(t *testing.T) {
	l := []want{wantOf(3, 2), wantOf(1, 8), wantOf(2, 7), wantOf(1, 9), wantOf(98, 99)}
	args := slices.Clone(l)
	fails(t, api.ErrFull, 8, 1<<15, l[:3]...)
	fails(t, api.ErrShare, 8, 0xffff, l[:4]...)
	fails(t, api.ErrTwice, 9, 0xffff, l[:4]...)
	fails(t, api.ErrPlan, 8, 1<<16, l[:3]...)
	fails(t, api.ErrPlan, 65, 1, l[:3]...)
	if !slices.Equal(l, args) {
		t.Error(l)
	}
	fullIs(t, 8, 7, l[:3], whole(1, 8, 0), whole(2, 7, 1), whole(3, 2, 2))
}
