package reply_test

import (
	"bytes"
	"encoding/binary"
	"fmt"
	"math"
	"math/rand"
	"slices"
	"testing"

	"dogwatch/api"
	"dogwatch/reply"
)

// equal is what P12.1 says of Same, field by field.
func equal(a, b api.Reply) bool {
	if a.E != b.E || a.Repacked != b.Repacked || a.Moved != b.Moved || len(a.Nums) != len(b.Nums) {
		return false
	}
	for i := range a.Nums {
		if a.Nums[i] != b.Nums[i] {
			return false
		}
	}
	return true
}

// valid is what the terms say of a reply, word by word.
func valid(r api.Reply) bool {
	if r.E < 0 || r.E > 30 {
		return false
	}
	if r.Moved < 0 || r.Moved > 255 {
		return false
	}
	if len(r.Nums) > 20 {
		return false
	}
	for _, n := range r.Nums {
		if n < 0 {
			return false
		}
	}
	if r.E == 0 {
		return true
	}
	few := len(r.Nums) == 0 || r.E == 3 && len(r.Nums) <= 2
	return !r.Repacked && r.Moved == 0 && few
}

// checked is the result that P12.1 gives a reply.
func checked(r api.Reply) api.Errno {
	if valid(r) {
		return api.OK
	}
	return api.ErrArg
}

// written is the encodings of numbers, one behind the other.
func written(numbers ...uint64) []byte {
	var b []byte
	for _, n := range numbers {
		b = binary.AppendUvarint(b, n)
	}
	return b
}

// numbersOf are the numbers that the terms have an encoding consist of. Those of a reply that is not valid may be no such thing.
func numbersOf(r api.Reply) []uint64 {
	repacked := uint64(0)
	if r.Repacked {
		repacked = 1
	}
	l := []uint64{uint64(r.E), repacked, uint64(r.Moved), uint64(len(r.Nums))}
	for _, n := range r.Nums {
		l = append(l, uint64(n))
	}
	return l
}

func encoded(r api.Reply) []byte { return written(numbersOf(r)...) }

// read is the numbers whose encodings bytes are, to the last byte; ok tells whether there are such.
func read(b []byte) (numbers []uint64, ok bool) {
	for rest := b; len(rest) > 0; {
		n, length := binary.Uvarint(rest)
		if length <= 0 {
			return nil, false
		}
		numbers = append(numbers, n)
		rest = rest[length:]
	}
	return numbers, bytes.Equal(written(numbers...), b)
}

// decoded is the reply that P12.2 gives bytes; ok tells whether there is one.
func decoded(b []byte) (r api.Reply, ok bool) {
	l, ok := read(b)
	if !ok || len(l) < 4 || slices.Max(l) > math.MaxInt64 {
		return api.Reply{}, false
	}
	r = api.Reply{E: api.Errno(l[0]), Repacked: l[1] == 1, Moved: int(l[2])}
	for _, n := range l[4:] {
		r.Nums = append(r.Nums, int(n))
	}
	if !valid(r) || !bytes.Equal(encoded(r), b) {
		return api.Reply{}, false
	}
	return r, true
}

func TestModels(t *testing.T) {
	r := api.Reply{Repacked: true, Moved: 2, Nums: []int{7, 300}}
	b := []byte{0, 1, 2, 2, 7, 172, 2}
	if got := encoded(r); !bytes.Equal(got, b) {
		t.Error(got)
	}
	if got, ok := decoded(b); !ok || !equal(got, r) {
		t.Error(got, ok)
	}
	if checked(r) != api.OK || checked(api.Reply{E: 31}) != api.ErrArg || checked(api.Reply{E: 12, Moved: 1}) != api.ErrArg {
		t.Error(checked(r))
	}
	for _, b := range [][]byte{nil, {0, 0, 0}, {128, 0, 0, 0, 0}, {0, 0, 0, 128}, {12, 1, 0, 0}, {0, 2, 0, 0}, {0, 0, 0, 1}, {0, 0, 0, 0, 0}} {
		if got, ok := decoded(b); ok || !equal(got, api.Reply{}) {
			t.Error(b, got)
		}
	}
	if equal(r, api.Reply{Repacked: true, Moved: 2, Nums: []int{7, 301}}) || equal(r, api.Reply{}) || !equal(r, copied(r)) {
		t.Error(r)
	}
}

// copied is a reply with a list of its own.
func copied(r api.Reply) api.Reply {
	r.Nums = slices.Clone(r.Nums)
	return r
}

// isZero tells whether nothing is in a reply, as beside an error.
func isZero(r api.Reply) bool {
	return r.E == 0 && !r.Repacked && r.Moved == 0 && len(r.Nums) == 0
}

// checkReply holds Check, Encode and Decode of a reply against the models.
func checkReply(t *testing.T, r api.Reply) {
	t.Helper()
	want := checked(r)
	if e := reply.Check(r); e != want {
		t.Fatalf("Check(%v): %d; want %d", r, e, want)
	}
	b, e := reply.Encode(r)
	if e != want {
		t.Fatalf("Encode(%v): the error %d; want %d", r, e, want)
	}
	if want != api.OK && len(b) != 0 {
		t.Fatalf("Encode(%v): %v beside an error", r, b)
	}
	if want == api.OK && !bytes.Equal(b, encoded(r)) {
		t.Fatalf("Encode(%v): %v; want %v", r, b, encoded(r))
	}
	checkDecode(t, encoded(r))
	if got, e := reply.Decode(encoded(r)); (e == api.OK) != (want == api.OK) || e == api.OK && !equal(got, r) {
		t.Fatalf("Decode(%v): %v, %d; of %v", encoded(r), got, e, r)
	}
}

// checkDecode holds Decode of bytes against the model.
func checkDecode(t *testing.T, b []byte) {
	t.Helper()
	r, e := reply.Decode(b)
	want, ok := decoded(b)
	if !ok {
		checkNone(t, b)
		return
	}
	if e != api.OK || !equal(r, want) {
		t.Fatalf("Decode(%v): %v, %d; want %v", b, r, e, want)
	}
}

// checkNone holds that bytes are no reply, whatever lies behind them in the same memory.
func checkNone(t *testing.T, b []byte) {
	t.Helper()
	for _, given := range [][]byte{slices.Clip(slices.Clone(b)), withSpare(b)} {
		if r, e := reply.Decode(given); e != api.ErrForm || !isZero(r) {
			t.Fatalf("Decode(%v): %v, %d; want ErrForm", b, r, e)
		}
	}
}

// withSpare is bytes behind which, in the same memory, other ones lie: each a number, so that they would end a reply that is cut short.
func withSpare(b []byte) []byte {
	return slices.Concat(b, make([]byte, 10), bytes.Repeat([]byte{1}, 30))[:len(b)]
}

// whole is a list with what lies behind it.
func whole[T any](l []T) []T { return l[:cap(l)] }

func fill[T any](l []T, x T) {
	for i := range whole(l) {
		whole(l)[i] = x
	}
}

// times is a byte n times over, and some bytes behind these.
func times(n int, x byte, behind ...byte) []byte {
	return append(bytes.Repeat([]byte{x}, n), behind...)
}

// edgeErrors are the errors at which something changes, and some that are others in fewer bits.
func edgeErrors() []api.Errno {
	return []api.Errno{-1, 0, 1, 2, 3, 4, 29, 30, 31, math.MaxInt, math.MinInt, 127, 128, 256, 259, 1 << 32, 1<<32 + 3, -1 << 32}
}

func edgeMoved() []int {
	return []int{-1, 0, 1, 127, 128, 255, 256, math.MaxInt, math.MinInt, 257, 1 << 32, 1<<32 + 1, -255, -256}
}

func edgeNums() []int {
	return []int{0, 127, 128, math.MaxInt, -1, math.MinInt}
}

// countNums is a list of length elements that all differ.
func countNums(length int) []int {
	l := make([]int, length)
	for i := range l {
		l[i] = 100 + i
	}
	return l
}

// edgeLists are lists of each length, and those with an edge as the first, a middle and the last element.
func edgeLists() [][]int {
	lists := [][]int{nil, {}}
	for _, length := range []int{1, 2, 3, 4, 10, 19, 20, 21, 22, 40, 127, 128, 256, 276} {
		lists = append(lists, countNums(length), make([]int, length))
	}
	for _, length := range []int{1, 2, 3, 5, 20, 21} {
		for _, at := range []int{0, length / 2, length - 1} {
			for _, n := range edgeNums() {
				l := countNums(length)
				l[at] = n
				lists = append(lists, l)
			}
		}
	}
	return lists
}

// TestExamples holds the examples of the chapter.
func TestExamples(t *testing.T) {
	r := api.Reply{Repacked: true, Moved: 2, Nums: []int{7, 300}}
	b, e := reply.Encode(r)
	if e != api.OK || !bytes.Equal(b, []byte{0, 1, 2, 2, 7, 172, 2}) {
		t.Error(b, e)
	}
	if got, e := reply.Decode(b); e != api.OK || !got.Repacked || got.E != api.OK || got.Moved != 2 || !slices.Equal(got.Nums, []int{7, 300}) {
		t.Error(got, e)
	}
	b, e = reply.Encode(api.Reply{E: api.ErrFull})
	if e != api.OK || !bytes.Equal(b, []byte{12, 0, 0, 0}) {
		t.Error(b, e)
	}
	checkNone(t, []byte{12, 1, 0, 0})
	checkNone(t, []byte{31, 0, 0, 0})
	checkNone(t, []byte{0, 0, 0, 0, 0})
	if e := reply.Check(api.Reply{E: api.ErrForm, Nums: []int{1, 2}}); e != api.OK {
		t.Error(e)
	}
}

// TestKnown holds P12.1 and P12.2 for replies whose bytes are written down.
func TestKnown(t *testing.T) {
	type row struct {
		r api.Reply
		b []byte
	}
	for _, k := range []row{
		{api.Reply{}, []byte{0, 0, 0, 0}},
		{api.Reply{Nums: []int{}}, []byte{0, 0, 0, 0}},
		{api.Reply{Repacked: true}, []byte{0, 1, 0, 0}},
		{api.Reply{Moved: 127}, []byte{0, 0, 127, 0}},
		{api.Reply{Moved: 128}, []byte{0, 0, 128, 1, 0}},
		{api.Reply{Moved: 255}, []byte{0, 0, 255, 1, 0}},
		{api.Reply{Repacked: true, Moved: 1, Nums: []int{0}}, []byte{0, 1, 1, 1, 0}},
		{api.Reply{Nums: []int{3, 1, 2, 1}}, []byte{0, 0, 0, 4, 3, 1, 2, 1}},
		{api.Reply{Nums: make([]int, 20)}, slices.Concat([]byte{0, 0, 0, 20}, times(20, 0))},
		{api.Reply{Nums: []int{math.MaxInt}}, slices.Concat([]byte{0, 0, 0, 1}, times(8, 255, 127))},
		{api.Reply{E: 1}, []byte{1, 0, 0, 0}},
		{api.Reply{E: 3}, []byte{3, 0, 0, 0}},
		{api.Reply{E: 3, Nums: []int{9}}, []byte{3, 0, 0, 1, 9}},
		{api.Reply{E: 3, Nums: []int{300, 0}}, []byte{3, 0, 0, 2, 172, 2, 0}},
		{api.Reply{E: 7}, []byte{7, 0, 0, 0}},
		{api.Reply{E: 26}, []byte{26, 0, 0, 0}},
		{api.Reply{E: 30}, []byte{30, 0, 0, 0}},
	} {
		if e := reply.Check(k.r); e != api.OK {
			t.Errorf("Check(%v): %d", k.r, e)
		}
		if b, e := reply.Encode(k.r); e != api.OK || !bytes.Equal(b, k.b) {
			t.Errorf("Encode(%v): %v, %d; want %v", k.r, b, e, k.b)
		}
		for _, given := range [][]byte{slices.Clip(slices.Clone(k.b)), withSpare(k.b)} {
			if r, e := reply.Decode(given); e != api.OK || !equal(r, k.r) {
				t.Errorf("Decode(%v): %v, %d; want %v", k.b, r, e, k.r)
			}
		}
	}
}

// TestErrors holds P12.1 for each error, the ones without a name in api too: all from 0 to 30 are right.
func TestErrors(t *testing.T) {
	for e := api.Errno(-300); e <= 300; e++ {
		want := api.ErrArg
		if e >= 0 && e <= 30 {
			want = api.OK
		}
		if got := reply.Check(api.Reply{E: e}); got != want {
			t.Errorf("Check of the error %d: %d; want %d", e, got, want)
		}
		checkReply(t, api.Reply{E: e})
	}
}

// TestMoved holds P12.1 for each Moved: without an error all from 0 to 255 are right.
func TestMoved(t *testing.T) {
	for moved := -600; moved <= 600; moved++ {
		want := api.ErrArg
		if moved >= 0 && moved <= 255 {
			want = api.OK
		}
		if got := reply.Check(api.Reply{Moved: moved}); got != want {
			t.Errorf("Check of Moved %d: %d; want %d", moved, got, want)
		}
		checkReply(t, api.Reply{Moved: moved})
		checkReply(t, api.Reply{Repacked: true, Moved: moved, Nums: []int{1}})
	}
}

// TestCounts holds P12.1 for each number of Nums, with each error.
func TestCounts(t *testing.T) {
	for e := api.Errno(0); e <= 31; e++ {
		most := 0
		switch e {
		case 0:
			most = 20
		case 3:
			most = 2
		case 31:
			most = -1
		}
		for length := range 300 {
			want := api.OK
			if length > most {
				want = api.ErrArg
			}
			for _, l := range [][]int{make([]int, length), countNums(length)} {
				r := api.Reply{E: e, Nums: l}
				if got := reply.Check(r); got != want {
					t.Errorf("Check(%v): %d; want %d", r, got, want)
				}
				checkReply(t, r)
			}
		}
	}
}

// TestEachNum holds P12.1 for each element of Nums: one that is negative is found wherever it is.
func TestEachNum(t *testing.T) {
	for length := 1; length <= 21; length++ {
		for at := range length {
			for _, n := range slices.Concat(edgeNums(), []int{1, -2, -128, math.MaxInt - 1, math.MinInt + 1, 1 << 31, 1 << 32, -1 << 32}) {
				for _, e := range []api.Errno{0, 1, 3, 12} {
					l := countNums(length)
					l[at] = n
					checkReply(t, api.Reply{E: e, Nums: l})
				}
			}
		}
	}
	for _, e := range []api.Errno{0, 3} {
		for _, n := range []int{-1, math.MinInt} {
			for _, l := range [][]int{{n}, {n, 0}, {0, n}, {n, n}, {n, math.MaxInt}} {
				if got := reply.Check(api.Reply{E: e, Nums: l}); got != api.ErrArg {
					t.Errorf("Check of the error %d and Nums %v: %d", e, l, got)
				}
			}
		}
	}
}

// TestBesideErrors holds P12.1 for what may be beside an error: nothing, and up to two Nums beside ErrForm.
func TestBesideErrors(t *testing.T) {
	for e := api.Errno(1); e <= 30; e++ {
		for _, repacked := range []bool{false, true} {
			for _, moved := range []int{0, 1, 2, 255, 256, -1} {
				for _, l := range [][]int{nil, {}, {0}, {1}, {0, 0}, {1, 2}, {0, 0, 0}, {1, 2, 3}, {-1}, countNums(20)} {
					want := api.ErrArg
					bare := !repacked && moved == 0
					if bare && len(l) == 0 || bare && e == 3 && len(l) <= 2 && !slices.Contains(l, -1) {
						want = api.OK
					}
					r := api.Reply{E: e, Repacked: repacked, Moved: moved, Nums: l}
					if got := reply.Check(r); got != want {
						t.Errorf("Check(%v): %d; want %d", r, got, want)
					}
					checkReply(t, r)
				}
			}
		}
	}
}

// TestEdges holds P12.1 and P12.2 for all edges of all fields together.
func TestEdges(t *testing.T) {
	count := 0
	for _, e := range edgeErrors() {
		for _, moved := range edgeMoved() {
			for _, l := range edgeLists() {
				checkReply(t, api.Reply{E: e, Moved: moved, Nums: l})
				checkReply(t, api.Reply{E: e, Repacked: true, Moved: moved, Nums: l})
				count++
			}
		}
	}
	if count < 10000 {
		t.Error(count)
	}
}

// checkSame holds Same of two replies, in both orders.
func checkSame(t *testing.T, a, b api.Reply, want bool) {
	t.Helper()
	if reply.Same(a, b) != want || reply.Same(b, a) != want {
		t.Fatalf("Same(%v, %v): %t, %t; want %t", a, b, reply.Same(a, b), reply.Same(b, a), want)
	}
}

// TestSame holds P12.1 for Same of replies that differ in one field alone, valid ones and others.
func TestSame(t *testing.T) {
	for _, r := range []api.Reply{
		{},
		{E: 3, Nums: []int{1, 2}},
		{E: 12},
		{Repacked: true, Moved: 2, Nums: []int{7, 300, 7}},
		{Moved: 255, Nums: countNums(20)},
		{E: -1, Repacked: true, Moved: -1, Nums: []int{-1, -2, math.MinInt}},
		{E: math.MinInt, Moved: math.MaxInt, Nums: countNums(40)},
	} {
		checkSame(t, r, r, true)
		checkSame(t, r, copied(r), true)
		for _, step := range []int{1, -1, 256, 1 << 32, math.MinInt} {
			other := copied(r)
			other.E += api.Errno(step)
			checkSame(t, r, other, false)
			other = copied(r)
			other.Moved += step
			checkSame(t, r, other, false)
			for i := range r.Nums {
				other = copied(r)
				other.Nums[i] += step
				checkSame(t, r, other, false)
			}
		}
		other := copied(r)
		other.Repacked = !r.Repacked
		checkSame(t, r, other, false)
		for _, n := range []int{0, 1, -1} {
			checkSame(t, r, longer(r, n), false)
		}
		for length := range r.Nums {
			other = copied(r)
			other.Nums = other.Nums[:length]
			checkSame(t, r, other, false)
			other.Nums = r.Nums[len(r.Nums)-length:]
			checkSame(t, r, other, false)
		}
	}
}

// longer is a reply with one more element of Nums.
func longer(r api.Reply, n int) api.Reply {
	r.Nums = append(slices.Clip(r.Nums), n)
	return r
}

// TestSameLists holds P12.1 for Same of lists: nil and empty ones are alike, the order of the elements counts, and what lies behind a list does not.
func TestSameLists(t *testing.T) {
	spare := []int{5, 6, 7}
	for _, r := range []api.Reply{{}, {E: 12}, {Repacked: true, Moved: 2}, {E: -1, Moved: 256}} {
		empty, cut := r, r
		empty.Nums, cut.Nums = []int{}, spare[:0]
		checkSame(t, r, empty, true)
		checkSame(t, r, cut, true)
		checkSame(t, empty, cut, true)
		for _, n := range []int{0, 5, -1} {
			checkSame(t, r, longer(r, n), false)
			checkSame(t, empty, longer(r, n), false)
			checkSame(t, cut, longer(r, n), false)
		}
	}
	checkSame(t, api.Reply{Nums: spare[:2]}, api.Reply{Nums: []int{5, 6}}, true)
	checkSame(t, api.Reply{Nums: spare[:2]}, api.Reply{Nums: spare}, false)
	checkSame(t, api.Reply{Nums: []int{1, 2}}, api.Reply{Nums: []int{2, 1}}, false)
	checkSame(t, api.Reply{Nums: []int{1, 2, 2}}, api.Reply{Nums: []int{1, 1, 2}}, false)
	checkSame(t, api.Reply{Nums: []int{0}}, api.Reply{Nums: []int{0, 0}}, false)
}

// TestSamePairs holds P12.1 for Same of all pairs of replies that differ in any fields.
func TestSamePairs(t *testing.T) {
	var all []api.Reply
	for _, e := range []api.Errno{0, 1, 3, 31, -1} {
		for _, moved := range []int{0, 1, 256} {
			for _, l := range [][]int{nil, {}, {0}, {1}, {1, 0}, {0, 1}, {1, 1}, {-1}, {0, 0, 0}} {
				all = append(all, api.Reply{E: e, Moved: moved, Nums: l}, api.Reply{E: e, Repacked: true, Moved: moved, Nums: l})
			}
		}
	}
	for _, a := range all {
		for _, b := range all {
			checkSame(t, a, b, equal(a, b))
		}
	}
}

// TestNoBytes holds P12.2 for no bytes, with a reply behind them in the same memory too.
func TestNoBytes(t *testing.T) {
	for _, b := range [][]byte{nil, {}, []byte{0, 0, 0, 0}[:0], []byte{12, 0, 0, 0}[:0]} {
		if r, e := reply.Decode(b); e != api.ErrForm || !isZero(r) {
			t.Errorf("Decode of no bytes: %v, %d", r, e)
		}
		checkNone(t, b)
	}
}

// TestFirstByte holds P12.2 for each first byte, whatever is behind it: it is an error from 0 to 30, or there is no reply.
func TestFirstByte(t *testing.T) {
	for x := range 256 {
		b := []byte{byte(x), 0, 0, 0}
		r, e := reply.Decode(b)
		if x <= 30 && (e != api.OK || !equal(r, api.Reply{E: api.Errno(x)})) {
			t.Errorf("Decode(%v): %v, %d", b, r, e)
		}
		if x > 30 {
			checkNone(t, b)
		}
		for _, behind := range [][]byte{nil, {0}, {1}, {0, 0}, {1, 0, 0}, {0, 1, 0}, {0, 0, 1, 5}, {0, 0, 2, 5, 6}, {0, 0, 3, 5, 6, 7}, {1, 1, 1, 5}, {0, 0, 0, 0}, {1, 0, 0, 0}, {128, 0, 0, 0}} {
			checkDecode(t, append([]byte{byte(x)}, behind...))
		}
	}
	for x := 31; x < 256; x++ {
		for y := range 256 {
			checkNone(t, []byte{byte(x), byte(y), 0, 0})
			checkNone(t, []byte{byte(x), byte(y), 0, 0, 0})
		}
	}
}

// TestSecondByte holds P12.2 for the number of Repacked: 0 and 1 alone are right, and 1 only without an error.
func TestSecondByte(t *testing.T) {
	for _, behind := range [][]byte{{0, 0}, {1, 0}, {2, 1, 7}, {0, 0, 0}, {1, 0, 0}, {255, 1, 0}} {
		for x := range 256 {
			for _, first := range []byte{0, 1, 3, 30, 31} {
				checkDecode(t, append([]byte{first, byte(x)}, behind...))
			}
		}
	}
	for _, b := range [][]byte{{0, 2, 0, 0}, {0, 127, 0, 0}, {0, 128, 0, 0}, {0, 128, 1, 0, 0}, {0, 128, 0, 0, 0}, {0, 129, 0, 0, 0}, {0, 255, 0, 0}, {0, 129, 128, 0, 0, 0}} {
		checkNone(t, b)
	}
	for _, n := range []uint64{2, 3, 127, 128, 256, 257, 1 << 32, 1<<32 + 1, math.MaxInt64, 1 << 63, 1<<63 + 1, math.MaxUint64} {
		checkNone(t, written(0, n, 0, 0))
	}
}

// TestGreatNumbers holds P12.2 for numbers that are too great, and may be right ones in fewer bits.
func TestGreatNumbers(t *testing.T) {
	for bits := 5; bits < 64; bits++ {
		for n := range uint64(31) {
			great := uint64(1)<<bits + n
			if great > 30 {
				checkNone(t, written(great, 0, 0, 0))
			}
			if great > 255 {
				checkNone(t, written(0, 0, great, 0))
			}
			if great > 20 {
				checkNone(t, slices.Concat(written(0, 0, 0, great), times(int(n), 1)))
				checkNone(t, slices.Concat(written(0, 0, 0, great), times(100, 1)))
			}
		}
	}
	for _, n := range []uint64{31, 32, 127, 128, math.MaxInt64, 1 << 63, math.MaxUint64} {
		checkNone(t, written(n, 0, 0, 0))
	}
	for _, n := range []uint64{256, 257, 1000, math.MaxInt64, 1 << 63, math.MaxUint64} {
		checkNone(t, written(0, 0, n, 0))
		checkNone(t, written(12, 0, n, 0))
	}
	for _, n := range []uint64{0, 1, 127, 128, 255} {
		if r, e := reply.Decode(written(0, 0, n, 0)); e != api.OK || !equal(r, api.Reply{Moved: int(n)}) {
			t.Errorf("Decode of Moved %d: %v, %d", n, r, e)
		}
	}
}

// TestCountBytes holds P12.2 for the number of Nums: just as many are behind it, and at most 20.
func TestCountBytes(t *testing.T) {
	for _, first := range []uint64{0, 1, 3, 30} {
		for count := range uint64(130) {
			for length := range 130 {
				b := append(written(first, 0, 0, count), times(length, 5)...)
				checkDecode(t, b)
			}
		}
	}
	for _, count := range []uint64{19, 20} {
		b := append(written(0, 0, 0, count), times(int(count), 5)...)
		r, e := reply.Decode(b)
		if e != api.OK || len(r.Nums) != int(count) {
			t.Errorf("Decode(%v): %v, %d", b, r, e)
		}
		checkNone(t, b[:len(b)-1])
		checkNone(t, append(b, 5))
	}
	for _, count := range []uint64{21, 22, 127, 128, 255, 256, 257, 1 << 16, 1 << 20} {
		checkNone(t, append(written(0, 0, 0, count), times(int(count), 5)...))
	}
	for _, count := range []uint64{1 << 31, 1<<32 + 1, math.MaxInt64, 1 << 63, 1<<63 + 1, math.MaxUint64} {
		checkNone(t, append(written(0, 0, 0, count), times(30, 5)...))
		checkNone(t, append(written(0, 0, 0, count), 5))
		checkNone(t, written(0, 0, 0, count))
	}
}

// fullReplies are valid replies with many kinds of numbers in them.
func fullReplies() []api.Reply {
	long := countNums(20)
	for i := range long {
		long[i] = 1 << (3 * i)
	}
	return []api.Reply{
		{},
		{E: 12},
		{E: 30},
		{E: 3, Nums: []int{300}},
		{E: 3, Nums: []int{math.MaxInt, 128}},
		{Repacked: true, Moved: 128, Nums: []int{7, 300}},
		{Moved: 255, Nums: []int{16384, 0, math.MaxInt}},
		{Repacked: true, Moved: 200, Nums: long},
		{Nums: slices.Repeat([]int{math.MaxInt}, 20)},
	}
}

// TestCut holds P12.2 for replies that are cut short ahead of each number, and within each: none of these is a reply.
func TestCut(t *testing.T) {
	for _, r := range fullReplies() {
		b := encoded(r)
		for length := range b {
			checkNone(t, b[:length])
		}
		checkDecode(t, withSpare(b))
	}
	for length, b := range [][]byte{{}, {0}, {0, 0}, {0, 0, 0}} {
		if r, e := reply.Decode(b); e != api.ErrForm || !isZero(r) {
			t.Errorf("Decode of %d bytes: %v, %d", length, r, e)
		}
	}
}

// TestBehind holds P12.2 for bytes behind the last number.
func TestBehind(t *testing.T) {
	for _, r := range fullReplies() {
		b := encoded(r)
		for x := range 256 {
			checkNone(t, append(slices.Clip(b), byte(x)))
			checkNone(t, append(slices.Clip(b), byte(x), byte(x)))
		}
		checkNone(t, slices.Concat(b, b))
		checkNone(t, slices.Concat(b, make([]byte, 1<<16)))
	}
}

// wrongTexts are bytes that are no encoding of a number.
func wrongTexts() [][]byte {
	texts := [][]byte{
		// Not as short as possible.
		{128, 0}, {129, 0}, {133, 0}, {255, 0}, {128, 128, 0}, {172, 130, 0}, {129, 128, 128, 0}, times(8, 128, 0), times(9, 128, 0), times(9, 255, 0),
		// Not below 2^64, or of more than ten bytes.
		times(9, 128, 2), times(9, 255, 2), times(9, 255, 127), times(10, 128, 0), times(10, 128, 1), times(30, 129, 1),
	}
	// Without an end, alone and ahead of others.
	for n := 1; n < 14; n++ {
		texts = append(texts, times(n, 128), times(n, 255))
	}
	return texts
}

// TestWrongTexts holds P12.2 for a number, each one of a reply, that is not encoded as short as possible, is too long or does not end.
func TestWrongTexts(t *testing.T) {
	for _, r := range fullReplies() {
		numbers := numbersOf(r)
		for at, n := range numbers {
			ahead, behind := written(numbers[:at]...), written(numbers[at+1:]...)
			long := written(n)
			long[len(long)-1] += 128
			for _, text := range append(wrongTexts(), append(slices.Clip(long), 0), append(slices.Clip(long), 128, 0), long) {
				checkNone(t, slices.Concat(ahead, text))
				// What does not end may, with what is behind it, be another number.
				checkDecode(t, slices.Concat(ahead, text, behind))
			}
			checkNone(t, slices.Concat(ahead, long, []byte{0}, behind))
		}
	}
}

// TestGreatNums holds P12.2 for an element of Nums: up to 2^63 - 1 it is a number of a reply.
func TestGreatNums(t *testing.T) {
	type row struct {
		n  uint64
		ok bool
	}
	for _, k := range []row{
		{1<<31 - 1, true}, {1 << 31, true}, {1<<32 - 1, true}, {1 << 32, true}, {1<<62 + 1, true}, {1<<63 - 2, true}, {1<<63 - 1, true},
		{1 << 63, false}, {1<<63 + 1, false}, {1<<63 + 5, false}, {math.MaxUint64 - 1, false}, {math.MaxUint64, false},
	} {
		for _, e := range []uint64{0, 3} {
			for length := 1; length <= 20 && (e == 0 || length <= 2); length++ {
				for at := range length {
					numbers := slices.Repeat([]uint64{5}, length)
					numbers[at] = k.n
					b := written(append([]uint64{e, 0, 0, uint64(length)}, numbers...)...)
					if !k.ok {
						checkNone(t, b)
						continue
					}
					r, e := reply.Decode(b)
					if e != api.OK || len(r.Nums) != length || uint64(r.Nums[at]) != k.n {
						t.Errorf("Decode(%v): %v, %d", b, r, e)
					}
					checkDecode(t, b)
				}
			}
		}
	}
}

// TestNotValidBytes holds P12.2 for bytes whose numbers are those of a reply that is not valid.
func TestNotValidBytes(t *testing.T) {
	for e := uint64(1); e <= 30; e++ {
		checkNone(t, written(e, 1, 0, 0))
		checkNone(t, written(e, 0, 1, 0))
		checkNone(t, written(e, 0, 255, 0))
		checkNone(t, written(e, 1, 1, 0))
		checkNone(t, written(e, 1, 0, 1, 1))
		checkNone(t, written(e, 0, 1, 2, 1, 1))
		checkNone(t, written(e, 0, 0, 3, 1, 2, 3))
		checkNone(t, append(written(e, 0, 0, 20), times(20, 0)...))
		if e != 3 {
			checkNone(t, written(e, 0, 0, 1, 0))
			checkNone(t, written(e, 0, 0, 2, 0, 0))
		}
	}
}

// rows are all rows of length elements, each one of these.
func rows[T any](elements []T, length int) [][]T {
	all := [][]T{nil}
	for range length {
		var more [][]T
		for _, row := range all {
			for _, x := range elements {
				more = append(more, append(slices.Clip(row), x))
			}
		}
		all = more
	}
	return all
}

// TestFewBytes holds P12.2 for all texts of up to two bytes, and for all of up to six of the bytes at the edges.
func TestFewBytes(t *testing.T) {
	for x := range 256 {
		checkDecode(t, []byte{byte(x)})
		for y := range 256 {
			checkDecode(t, []byte{byte(x), byte(y)})
			checkDecode(t, []byte{0, 0, byte(x), byte(y)})
			checkDecode(t, []byte{0, 1, byte(x), byte(y), 0})
			checkDecode(t, []byte{0, 0, 0, byte(x), byte(y)})
			checkDecode(t, []byte{3, 0, 0, byte(x), byte(y)})
			checkDecode(t, []byte{3, 0, 0, 2, byte(x), byte(y)})
		}
	}
	for length := range 7 {
		for _, b := range rows([]byte{0, 1, 2, 3, 31, 128, 255}, length) {
			checkDecode(t, b)
		}
	}
}

// someReply is any reply: most often a valid one, or nearly so.
func someReply(r *rand.Rand) api.Reply {
	x := api.Reply{Repacked: r.Intn(2) == 0, Moved: r.Intn(256)}
	for range r.Intn(21) {
		x.Nums = append(x.Nums, int(r.Int63()>>r.Intn(63)))
	}
	switch r.Intn(4) {
	case 0:
		x = api.Reply{E: api.Errno(r.Intn(31))}
	case 1:
		x = api.Reply{E: api.ErrForm, Nums: x.Nums[:min(len(x.Nums), r.Intn(4))]}
	}
	switch r.Intn(12) {
	case 0:
		x.E = edgeErrors()[r.Intn(len(edgeErrors()))]
	case 1:
		x.Moved = edgeMoved()[r.Intn(len(edgeMoved()))]
	case 2:
		x.Nums = edgeLists()[r.Intn(len(edgeLists()))]
	case 3:
		x.Repacked = !x.Repacked
	}
	return x
}

// TestReplies holds P12.1 and P12.3 for any replies: Decode of what Encode answers is the reply.
func TestReplies(t *testing.T) {
	r := rand.New(rand.NewSource(121))
	encodings := 0
	for range 50000 {
		x := someReply(r)
		checkReply(t, x)
		b, e := reply.Encode(x)
		if e != api.OK {
			continue
		}
		encodings++
		if got, e := reply.Decode(b); e != api.OK || !equal(got, x) || !reply.Same(got, x) {
			t.Fatalf("Decode of what %v is: %v, %d", x, got, e)
		}
	}
	if encodings < 10000 || encodings > 49000 {
		t.Error(encodings)
	}
}

// someText is the bytes of a reply, most often spoilt, or any bytes.
func someText(r *rand.Rand) []byte {
	b := encoded(someReply(r))
	switch r.Intn(6) {
	case 0:
		b = b[:r.Intn(len(b)+1)]
	case 1:
		b = append(b, byte(r.Intn(256)))
	case 2:
		b[r.Intn(len(b))] = byte(r.Intn(256))
	case 3:
		at, text := r.Intn(len(b)+1), wrongTexts()[r.Intn(len(wrongTexts()))]
		b = slices.Concat(b[:at], text, b[at:])
	case 4:
		r.Read(b)
	}
	return b
}

// TestTexts holds P12.2 and P12.3 for any bytes: Encode of what Decode answers is the bytes.
func TestTexts(t *testing.T) {
	r := rand.New(rand.NewSource(122))
	replies := 0
	for range 50000 {
		b := someText(r)
		checkDecode(t, b)
		x, e := reply.Decode(b)
		if e != api.OK {
			continue
		}
		replies++
		if again, e := reply.Encode(x); e != api.OK || !bytes.Equal(again, b) {
			t.Fatalf("Encode of what %v is: %v, %d", b, again, e)
		}
		if reply.Check(x) != api.OK {
			t.Fatalf("Decode(%v): %v is not valid", b, x)
		}
	}
	if replies < 5000 || replies > 49000 {
		t.Error(replies)
	}
	checkNone(t, times(1<<20, 0))
	checkNone(t, times(1<<20, 128))
	checkNone(t, append([]byte{0, 0, 0, 20}, times(1<<20, 1)...))
}

// TestEachByte holds P12.2 and P12.3 for each value of each byte of a reply.
func TestEachByte(t *testing.T) {
	for _, r := range fullReplies() {
		for at := range encoded(r) {
			for x := range 256 {
				b := encoded(r)
				old := b[at]
				b[at] = byte(x)
				checkDecode(t, b)
				if got, e := reply.Decode(b); byte(x) != old && e == api.OK && equal(got, r) {
					t.Fatalf("Decode(%v): %v, whose bytes are %v", b, got, encoded(r))
				}
			}
		}
	}
}

// TestDifferent holds P12.3: valid replies that differ have encodings that differ, and those that do not have the same one.
func TestDifferent(t *testing.T) {
	found := map[string]string{}
	hold := func(x api.Reply) {
		b, e := reply.Encode(x)
		if e != api.OK {
			return
		}
		text := fmt.Sprintf("%d %t %d %d", x.E, x.Repacked, x.Moved, x.Nums)
		if other, ok := found[string(b)]; ok && other != text {
			t.Fatalf("%v and %v are %v", other, text, b)
		}
		found[string(b)] = text
	}
	for e := range api.Errno(31) {
		for length := range 4 {
			for _, l := range rows([]int{0, 1, 2, 3, 127, 128, 129, 255, 256, 16384, math.MaxInt}, length) {
				hold(api.Reply{E: e, Nums: l})
			}
		}
	}
	for moved := range 256 {
		for length := range 3 {
			for _, l := range rows([]int{0, 1, 2, 128, 256}, length) {
				hold(api.Reply{Moved: moved, Nums: l})
				hold(api.Reply{Repacked: true, Moved: moved, Nums: l})
			}
		}
	}
	r := rand.New(rand.NewSource(123))
	for range 50000 {
		hold(someReply(r))
	}
	texts := map[string]bool{}
	for _, text := range found {
		if texts[text] {
			t.Fatalf("%v has two encodings", text)
		}
		texts[text] = true
	}
	if len(found) < 20000 {
		t.Error(len(found))
	}
}

// TestReplyMemory holds the rule on memory for Check, Encode and Same: Nums, and what lies behind them, stay.
func TestReplyMemory(t *testing.T) {
	for _, r := range append(fullReplies(), api.Reply{Nums: countNums(21)}, api.Reply{E: 12, Nums: []int{5}}, api.Reply{E: 31, Nums: []int{3, 1, -1}}) {
		given := r
		given.Nums = slices.Concat(r.Nums, []int{81, -82, 83})[:len(r.Nums)]
		old := slices.Clone(whole(given.Nums))
		e := reply.Check(given)
		b, encodeE := reply.Encode(given)
		same := reply.Same(given, r)
		self := reply.Same(given, given)
		if !slices.Equal(whole(given.Nums), old) {
			t.Errorf("%v: of %v, %v is left", r, old, whole(given.Nums))
		}
		if e != checked(r) || encodeE != e || !same || !self {
			t.Errorf("%v: %d, %d, %t, %t with more behind it", r, e, encodeE, same, self)
		}
		fill(given.Nums, 99)
		if e == api.OK && !bytes.Equal(b, encoded(r)) {
			t.Errorf("Encode(%v): %v once Nums change", r, b)
		}
	}
}

// TestEncodeMemory holds the rule on memory for Encode: the bytes of each call are new, with what lies behind them.
func TestEncodeMemory(t *testing.T) {
	for _, r := range fullReplies() {
		first, _ := reply.Encode(r)
		second, _ := reply.Encode(r)
		_ = append(first, 66, 67, 68, 69)
		fill(first, 99)
		if !bytes.Equal(second, encoded(r)) {
			t.Errorf("Encode(%v): %v once another result changes", r, second)
		}
		fill(second, 98)
		if slices.ContainsFunc(whole(first), func(x byte) bool { return x != 99 }) {
			t.Errorf("Encode(%v): two results share memory", r)
		}
		if third, e := reply.Encode(r); e != api.OK || !bytes.Equal(third, encoded(r)) {
			t.Errorf("Encode(%v): %v, %d once others changed", r, third, e)
		}
	}
}

// TestDecodeMemory holds the rule on memory for Decode: bytes, and what lies behind them, stay, whether they are a reply or not.
func TestDecodeMemory(t *testing.T) {
	texts := [][]byte{{}, {0}, {31, 0, 0, 0}, {12, 1, 0, 0}, {0, 0, 0, 0, 0}, {0, 0, 0, 3, 1, 2}, {0, 0, 0, 1, 128}, {3, 0, 0, 3, 1, 1, 1}}
	for _, r := range fullReplies() {
		texts = append(texts, encoded(r))
	}
	for _, text := range texts {
		b := withSpare(text)
		old := slices.Clone(whole(b))
		r, e := reply.Decode(b)
		if !bytes.Equal(whole(b), old) {
			t.Errorf("Decode: of %v, %v is left", old, whole(b))
		}
		want, ok := decoded(text)
		fill(b, 99)
		if !equal(r, want) || (e == api.OK) != ok {
			t.Errorf("Decode(%v): %v, %d once the bytes change", text, r, e)
		}
	}
}

// TestNumsMemory holds the rule on memory for Decode: the Nums of each call are new, with what lies behind them.
func TestNumsMemory(t *testing.T) {
	for _, r := range fullReplies() {
		b := encoded(r)
		first, _ := reply.Decode(b)
		second, _ := reply.Decode(b)
		_ = append(first.Nums, 66, 67, 68)
		fill(first.Nums, 99)
		if !equal(second, r) {
			t.Errorf("Decode(%v): %v once another result changes", b, second)
		}
		fill(second.Nums, 98)
		if slices.ContainsFunc(whole(first.Nums), func(n int) bool { return n != 99 }) {
			t.Errorf("Decode(%v): two results share memory", b)
		}
		if !bytes.Equal(b, encoded(r)) {
			t.Errorf("Decode(%v): %v once a result changes", encoded(r), b)
		}
		if third, e := reply.Decode(b); e != api.OK || !equal(third, r) {
			t.Errorf("Decode(%v): %v, %d once others changed", b, third, e)
		}
	}
}
