package record_test

import (
	"bytes"
	"math/big"
	"math/rand"
	"slices"
	"testing"

	"dogwatch/api"
	"dogwatch/record"
)

const longest = 120

// checksum is what the terms say of bytes, word by word, in numbers that do not wrap round.
func checksum(b []byte) byte {
	rest := 0
	for _, x := range b {
		rest ^= int(x)
		for range 8 {
			doubled := rest * 2 % 256
			if rest >= 128 {
				doubled ^= 7
			}
			rest = doubled
		}
	}
	return byte(rest)
}

// remainder is what is left of the bits of all bytes, with eight more behind them, by x^8 + x^2 + x + 1.
func remainder(b []byte) byte {
	rest := new(big.Int).SetBytes(b)
	rest.Lsh(rest, 8)
	for rest.BitLen() > 8 {
		divisor := big.NewInt(0b1_0000_0111)
		rest.Xor(rest, divisor.Lsh(divisor, uint(rest.BitLen()-9)))
	}
	return byte(rest.Int64())
}

// sealed is the record of a body, as the terms have it.
func sealed(body ...byte) []byte {
	b := append([]byte{byte(len(body))}, body...)
	return append(b, checksum(b))
}

// divided is the records of bytes as the terms have them: what is left is looked at anew each time.
func divided(b []byte) []record.Record {
	var records []record.Record
	for rest := b; len(rest) > 0; {
		next := int(rest[0])
		r := record.Record{At: len(b) - len(rest), E: api.ErrForm}
		switch follow := len(rest) - 1; {
		case next == 0 || next > longest:
			r.Len = 1
		case follow < next+1:
			r.Len = len(rest)
		default:
			r.Len = 1 + next + 1
			if rest[next+1] == checksum(rest[:next+1]) {
				r.E = api.OK
				r.Body = rest[1 : next+1]
			}
		}
		records = append(records, r)
		rest = rest[r.Len:]
	}
	return records
}

func right(at int, body ...byte) record.Record {
	return record.Record{At: at, Len: len(body) + 2, Body: body}
}

func wrong(at, length int) record.Record {
	return record.Record{At: at, Len: length, E: api.ErrForm}
}

func equal(a, b record.Record) bool {
	return a.At == b.At && a.Len == b.Len && a.E == b.E && bytes.Equal(a.Body, b.Body)
}

// spoilt is bytes with something else at one place: the last one is -1.
func spoilt(b []byte, at int, by byte) []byte {
	b = slices.Clone(b)
	b[(at+len(b))%len(b)] ^= by
	return b
}

// times is a byte n times over.
func times(n int, x byte) []byte { return bytes.Repeat([]byte{x}, n) }

// rising is n bytes, each one more than the one ahead of it.
func rising(n int, from byte) []byte {
	b := make([]byte, n)
	for i := range b {
		b[i] = from + byte(i)
	}
	return b
}

func someBytes(r *rand.Rand, n int) []byte {
	b := make([]byte, n)
	r.Read(b)
	return b
}

// withSpare is bytes behind which, in the same memory, other ones lie.
func withSpare(b []byte, behind ...byte) []byte {
	behind = append(behind, times(200, 77)...)
	return slices.Concat(b, behind)[:len(b)]
}

// whole is bytes with what lies behind them.
func whole(b []byte) []byte { return b[:cap(b)] }

// fill overwrites bytes and what lies behind them.
func fill(b []byte, x byte) {
	for i := range whole(b) {
		whole(b)[i] = x
	}
}

func TestModels(t *testing.T) {
	if s := checksum([]byte{1}); s != 7 {
		t.Error(s)
	}
	if s := remainder([]byte{1}); s != 7 {
		t.Error(s)
	}
	if s := remainder([]byte("123456789")); s != 0xF4 {
		t.Error(s)
	}
	if b := sealed(5); !bytes.Equal(b, []byte{1, 5, remainder([]byte{1, 5})}) {
		t.Error(b)
	}
	got := divided(slices.Concat([]byte{0}, sealed(5, 6), []byte{3, 1}))
	if want := []record.Record{wrong(0, 1), right(1, 5, 6), wrong(5, 2)}; !slices.EqualFunc(got, want, equal) {
		t.Error(got)
	}
}

// TestKnownSums holds P10.1 for checksums that are known: those of single bits, and what follows from them.
func TestKnownSums(t *testing.T) {
	type row struct {
		b   []byte
		sum byte
	}
	for _, k := range []row{
		{nil, 0},
		{[]byte{}, 0},
		{[]byte{0}, 0},
		{[]byte{0, 0, 0}, 0},
		{[]byte{1}, 0x07},
		{[]byte{2}, 0x0E},
		{[]byte{3}, 0x09},
		{[]byte{4}, 0x1C},
		{[]byte{8}, 0x38},
		{[]byte{16}, 0x70},
		{[]byte{32}, 0xE0},
		{[]byte{64}, 0xC7},
		{[]byte{128}, 0x89},
		{[]byte{127}, 0x7A},
		{[]byte{255}, 0xF3},
		// The remainder is carried from byte to byte, and bytes of 0 count once it is not 0.
		{[]byte{0, 1}, 0x07},
		{[]byte{1, 0}, 0x15},
		{[]byte{1, 7}, 0},
		{[]byte{1, 1}, 0x12},
		{[]byte("123456789"), 0xF4},
	} {
		if s := record.Sum(k.b); s != k.sum {
			t.Errorf("Sum(%v): %#x; want %#x", k.b, s, k.sum)
		}
	}
}

// TestSum holds P10.1 for Sum: of no bytes, of each one, of each two, and of many.
func TestSum(t *testing.T) {
	texts := [][]byte{nil, {}}
	for x := range 256 {
		texts = append(texts, []byte{byte(x)}, times(100, byte(x)), append(times(50, 0), byte(x)), append([]byte{byte(x)}, times(50, 0)...))
		for y := range 256 {
			texts = append(texts, []byte{byte(x), byte(y)})
		}
	}
	r := rand.New(rand.NewSource(101))
	for i := range 3000 {
		texts = append(texts, someBytes(r, i%400))
	}
	for _, b := range texts {
		if s := record.Sum(b); s != checksum(b) || s != remainder(b) {
			t.Errorf("Sum(%v): %d; want %d, %d", b, s, checksum(b), remainder(b))
		}
		if s := record.Sum(withSpare(b)); s != checksum(b) {
			t.Errorf("Sum(%v) with others behind: %d; want %d", b, s, checksum(b))
		}
	}
	for _, n := range []int{1 << 12, 1<<16 - 1, 1 << 16, 1<<16 + 1, 1 << 20} {
		b := someBytes(r, n)
		if s := record.Sum(b); s != checksum(b) {
			t.Errorf("Sum of %d bytes: %d; want %d", n, s, checksum(b))
		}
	}
}

// TestKnownSeals holds P10.1 for records that are known.
func TestKnownSeals(t *testing.T) {
	type row struct{ body, sealed []byte }
	for _, k := range []row{
		{[]byte{0}, []byte{1, 0, 0x15}},
		{[]byte{5}, []byte{1, 5, 0x0E}},
		{[]byte{7}, []byte{1, 7, 0}},
		{[]byte{0, 0}, []byte{2, 0, 0, 0xD6}},
		{[]byte{1, 0}, []byte{2, 1, 0, 0xC3}},
		{[]byte{14, 0}, []byte{2, 14, 0, 0}},
	} {
		if b, e := record.Seal(k.body); e != api.OK || !bytes.Equal(b, k.sealed) {
			t.Errorf("Seal(%v): %v, %d; want %v", k.body, b, e, k.sealed)
		}
	}
}

// TestSeal holds P10.1 for Seal, for bodies of each length that may be and of lengths that may not.
func TestSeal(t *testing.T) {
	r := rand.New(rand.NewSource(102))
	for n := 1; n <= longest; n++ {
		for _, body := range [][]byte{times(n, 0), times(n, 255), times(n, byte(n)), rising(n, 1), someBytes(r, n)} {
			want := slices.Concat([]byte{byte(n)}, body, []byte{0})
			want[n+1] = remainder(want[:n+1])
			for _, given := range [][]byte{slices.Clip(body), withSpare(body)} {
				if b, e := record.Seal(given); e != api.OK || !bytes.Equal(b, want) {
					t.Errorf("Seal(%v): %v, %d; want %v", body, b, e, want)
				}
			}
		}
	}
	for _, n := range []int{0, 121, 122, 127, 128, 240, 255, 256, 257, 256 + 1, 256 + 120, 512 + 5, 1 << 16, 1<<16 + 1, 1 << 20} {
		for _, body := range [][]byte{times(n, 0), times(n, 1), withSpare(times(n, 1))} {
			if b, e := record.Seal(body); e != api.ErrArg || len(b) != 0 {
				t.Errorf("Seal of %d bytes: %v, %d", n, b, e)
			}
		}
	}
	if b, e := record.Seal(nil); e != api.ErrArg || len(b) != 0 {
		t.Errorf("Seal of nil: %v, %d", b, e)
	}
}

// checkSplit holds what Split and Count answer to bytes, with others behind them in the same memory and without.
func checkSplit(t *testing.T, b []byte, want ...record.Record) {
	t.Helper()
	var valid, invalid int
	for _, r := range want {
		if r.E == api.OK {
			valid++
		} else {
			invalid++
		}
	}
	for _, given := range [][]byte{slices.Clip(b), withSpare(b)} {
		got := record.Split(given)
		if !slices.EqualFunc(got, want, equal) {
			t.Fatalf("Split(%v): %v; want %v", b, got, want)
		}
		if right, wrong := record.Count(given); right != valid || wrong != invalid {
			t.Fatalf("Count(%v): %d, %d; want %d, %d", b, right, wrong, valid, invalid)
		}
	}
}

// checkModel holds what Split and Count answer to bytes against what the terms say of them.
func checkModel(t *testing.T, b []byte) {
	t.Helper()
	checkSplit(t, b, divided(b)...)
}

func TestNoBytes(t *testing.T) {
	checkSplit(t, nil)
	checkSplit(t, []byte{})
	if right, wrong := record.Count(nil); right != 0 || wrong != 0 {
		t.Error(right, wrong)
	}
}

// TestKnownSplits holds P10.2 at the edges that the terms have.
func TestKnownSplits(t *testing.T) {
	a, b, c := sealed(5), sealed(6, 7), sealed(rising(longest, 9)...)
	checkSplit(t, a, right(0, 5))
	checkSplit(t, b, right(0, 6, 7))
	checkSplit(t, c, right(0, rising(longest, 9)...))
	checkSplit(t, slices.Concat(a, b, c, a), right(0, 5), right(3, 6, 7), right(7, rising(longest, 9)...), right(129, 5))
	checkSplit(t, slices.Concat(a, a, a), right(0, 5), right(3, 5), right(6, 5))
	// Lengths that no record has, at the start, between records and at the end.
	for _, x := range []byte{0, 121, 122, 127, 128, 254, 255} {
		checkSplit(t, []byte{x}, wrong(0, 1))
		checkSplit(t, []byte{x, x, x}, wrong(0, 1), wrong(1, 1), wrong(2, 1))
		checkSplit(t, slices.Concat([]byte{x}, a), wrong(0, 1), right(1, 5))
		checkSplit(t, slices.Concat(a, []byte{x}, b), right(0, 5), wrong(3, 1), right(4, 6, 7))
		checkSplit(t, slices.Concat(a, []byte{x, x}, b, []byte{x}), right(0, 5), wrong(3, 1), wrong(4, 1), right(5, 6, 7), wrong(9, 1))
		checkSplit(t, slices.Concat(b, a, []byte{x}), right(0, 6, 7), right(4, 5), wrong(7, 1))
		// Many bytes follow, but not as those of a record.
		checkSplit(t, slices.Concat([]byte{x}, c, a), wrong(0, 1), right(1, rising(longest, 9)...), right(123, 5))
	}
	// A record of 121 bytes would be whole, with a right checksum.
	long := slices.Concat([]byte{121}, times(121, 0))
	long = append(long, checksum(long))
	want := append([]record.Record{wrong(0, 1)}, divided(long[1:])...)
	for i := range want[1:] {
		want[i+1].At++
	}
	checkSplit(t, long, want...)
	// The least length and the greatest one, with too few bytes behind them.
	checkSplit(t, []byte{1}, wrong(0, 1))
	checkSplit(t, []byte{1, 5}, wrong(0, 2))
	checkSplit(t, []byte{120}, wrong(0, 1))
	checkSplit(t, []byte{120, 5}, wrong(0, 2))
	checkSplit(t, slices.Concat([]byte{120}, a, b), wrong(0, 8))
	checkSplit(t, slices.Concat(a, []byte{1}), right(0, 5), wrong(3, 1))
	checkSplit(t, slices.Concat(a, []byte{120}), right(0, 5), wrong(3, 1))
	checkSplit(t, slices.Concat(a, []byte{1, 1}), right(0, 5), wrong(3, 2))
	// A length ahead of a record takes bytes of it: 1, 1 and 5 are a record whose last byte is no checksum, and 14 begins one that is cut short.
	checkSplit(t, slices.Concat([]byte{1}, a), wrong(0, 3), wrong(3, 1))
}

// TestExamples holds the examples of the chapter.
func TestExamples(t *testing.T) {
	if b, e := record.Seal([]byte{5}); e != api.OK || len(b) != 3 || b[0] != 1 || b[1] != 5 {
		t.Error(b, e)
	}
	if s := record.Sum([]byte{1}); s != 7 {
		t.Error(s)
	}
	if b, e := record.Seal([]byte{}); e != api.ErrArg || len(b) != 0 {
		t.Error(b, e)
	}
	checkSplit(t, []byte{0, 200, 3, 1}, wrong(0, 1), wrong(1, 1), wrong(2, 2))
	b, _ := record.Seal([]byte("hello"))
	checkSplit(t, b[:4], wrong(0, 4))
}

// TestEachLength holds P10.2 for each first byte: as the only one, with too few bytes, with just enough, and with more.
func TestEachLength(t *testing.T) {
	for x := range 256 {
		for _, n := range []int{0, 1, 2, x - 1, x, x + 1, x + 2, x + 3, 300} {
			if n < 0 {
				continue
			}
			for _, y := range []byte{0, 1, 2, 120, 121, 255} {
				checkModel(t, append([]byte{byte(x)}, times(n, y)...))
				checkModel(t, slices.Concat(sealed(9, 8), []byte{byte(x)}, times(n, y)))
				checkModel(t, slices.Concat([]byte{0, byte(x)}, times(n, y), sealed(9, 8)))
			}
		}
	}
}

// TestCut holds P10.2 for records that are cut short, by as many bytes as may be: alone, behind valid records and behind invalid ones.
func TestCut(t *testing.T) {
	heads := [][]byte{nil, sealed(5), slices.Concat(sealed(5), sealed(6, 7)), {0}, slices.Concat(sealed(5), []byte{200, 0}), spoilt(sealed(1, 2, 3), -1, 1)}
	for _, n := range []int{1, 2, 3, 60, 119, 120} {
		for _, body := range [][]byte{rising(n, 3), times(n, 1), times(n, 0), times(n, 255)} {
			all := sealed(body...)
			for length := 1; length < len(all); length++ {
				for _, head := range heads {
					want := append(divided(head), wrong(len(head), length))
					checkSplit(t, slices.Concat(head, all[:length]), want...)
				}
			}
			for _, head := range heads {
				checkSplit(t, slices.Concat(head, all), append(divided(head), right(len(head), body...))...)
			}
		}
	}
}

// TestCutSpare holds P10.2: what lies behind the bytes in the same memory does not make a record whole.
func TestCutSpare(t *testing.T) {
	all := sealed(1, 2, 3, 4)
	for length := 1; length < len(all); length++ {
		given := withSpare(all[:length], all[length:]...)
		if got := record.Split(given); !slices.EqualFunc(got, []record.Record{wrong(0, length)}, equal) {
			t.Errorf("Split(%v): %v", given, got)
		}
		if right, wrong := record.Count(given); right != 0 || wrong != 1 {
			t.Errorf("Count(%v): %d, %d", given, right, wrong)
		}
	}
}

// TestRecordsInBodies holds P10.2: what looks like records within a body is its body's.
func TestRecordsInBodies(t *testing.T) {
	inner := slices.Concat(sealed(5), sealed(6, 7))
	bodies := [][]byte{
		sealed(5),
		inner,
		sealed(inner...),
		sealed(sealed(sealed(5)...)...),
		slices.Concat([]byte{0}, inner),
		slices.Concat(inner, []byte{0, 121, 255}),
		slices.Concat(inner, []byte{9}),
		sealed(times(118, 4)...),
		slices.Concat(sealed(times(50, 4)...), sealed(times(60, 4)...)),
	}
	for _, body := range bodies {
		all := sealed(body...)
		checkSplit(t, all, right(0, body...))
		checkSplit(t, slices.Concat(sealed(1), all, all), right(0, 1), right(3, body...), right(3+len(all), body...))
		// Nor are they found when the record is invalid, or cut short.
		checkSplit(t, slices.Concat(spoilt(all, -1, 1), sealed(1)), wrong(0, len(all)), right(len(all), 1))
		checkSplit(t, all[:len(all)-1], wrong(0, len(all)-1))
	}
}

// TestWrongSums holds P10.2 for each checksum that is not right: the record is invalid, and those ahead of it and behind it are found.
func TestWrongSums(t *testing.T) {
	for _, body := range [][]byte{{5}, {0}, {7}, {1, 5}, rising(119, 1), rising(120, 1), sealed(9)} {
		all := sealed(body...)
		n := len(all)
		for by := 1; by < 256; by++ {
			bad := spoilt(all, -1, byte(by))
			checkSplit(t, bad, wrong(0, n))
			checkSplit(t, slices.Concat(bad, all, bad, sealed(1, 2)), wrong(0, n), right(n, body...), wrong(2*n, n), right(3*n, 1, 2))
			checkSplit(t, slices.Concat(sealed(3), bad, []byte{0}, all), right(0, 3), wrong(3, n), wrong(3+n, 1), right(4+n, body...))
		}
	}
}

// TestThreeBytes holds P10.2 for all that a record of a body of one byte may be.
func TestThreeBytes(t *testing.T) {
	for x := range 256 {
		valid := 0
		for y := range 256 {
			b := []byte{1, byte(x), byte(y)}
			checkModel(t, b)
			right, wrong := record.Count(b)
			if right+wrong != 1 {
				t.Fatal(b, right, wrong)
			}
			valid += right
		}
		if valid != 1 {
			t.Errorf("%d records of the body %d", valid, x)
		}
	}
}

// TestFewBytes holds P10.2 for all texts of up to six of the bytes at the edges, and for all of up to two bytes.
func TestFewBytes(t *testing.T) {
	for x := range 256 {
		checkModel(t, []byte{byte(x)})
		for y := range 256 {
			checkModel(t, []byte{byte(x), byte(y)})
		}
	}
	// Of these, 1 0 21, 1 7 0, 2 0 0 214 and 2 1 0 195 are records.
	letters := []byte{0, 1, 2, 7, 21, 195, 214, 255}
	texts := [][]byte{nil}
	for length := range 6 {
		var longer [][]byte
		for _, b := range texts {
			for _, x := range letters {
				longer = append(longer, append(slices.Clone(b), x))
			}
		}
		texts = longer
		found := 0
		for _, b := range texts {
			right, _ := record.Count(b)
			found += right
			want := divided(b)
			if got := record.Split(b); !slices.EqualFunc(got, want, equal) {
				t.Fatalf("Split(%v): %v; want %v", b, got, want)
			}
		}
		if length >= 2 && found == 0 {
			t.Errorf("no record in texts of %d bytes", length+1)
		}
	}
}

func TestCount(t *testing.T) {
	type row struct {
		b            []byte
		right, wrong int
	}
	for _, k := range []row{
		{nil, 0, 0},
		{sealed(5), 1, 0},
		{slices.Concat(sealed(5), sealed(5), sealed(1, 2, 3)), 3, 0},
		{bytes.Repeat(sealed(times(120, 0)...), 500), 500, 0},
		{times(1, 0), 0, 1},
		{times(7, 0), 0, 7},
		{times(7, 121), 0, 7},
		{times(7, 255), 0, 7},
		{times(7, 120), 0, 1},
		{spoilt(sealed(5), -1, 1), 0, 1},
		{sealed(5)[:2], 0, 1},
		{slices.Concat([]byte{0}, sealed(5), spoilt(sealed(5), 1, 1), sealed(6), []byte{4, 3}), 2, 3},
		{slices.Concat(sealed(5), times(1000, 0), sealed(6)), 2, 1000},
	} {
		if right, wrong := record.Count(k.b); right != k.right || wrong != k.wrong {
			t.Errorf("Count(%v): %d, %d; want %d, %d", k.b, right, wrong, k.right, k.wrong)
		}
	}
}

// someText has records, some of them spoilt or cut short, and bytes of any kind.
func someText(r *rand.Rand) []byte {
	var b []byte
	for range r.Intn(12) {
		body := someBytes(r, 1+r.Intn(longest))
		if r.Intn(2) == 0 {
			body = body[:1+r.Intn(min(len(body), 6))]
		}
		all := sealed(body...)
		switch r.Intn(8) {
		case 0:
			b = append(b, someBytes(r, r.Intn(6))...)
		case 1:
			b = append(b, 0, 121, 255)
		case 2:
			b = append(b, spoilt(all, r.Intn(len(all)), byte(1+r.Intn(255)))...)
		case 3:
			b = append(b, all[:r.Intn(len(all))]...)
		default:
			b = append(b, all...)
		}
	}
	return b
}

// TestSplit holds P10.2 for any bytes, few and many.
func TestSplit(t *testing.T) {
	r := rand.New(rand.NewSource(103))
	for range 10000 {
		checkModel(t, someText(r))
		checkModel(t, someBytes(r, r.Intn(300)))
	}
	for range 5 {
		checkModel(t, someBytes(r, 100000))
		var b []byte
		for len(b) < 2*api.MaxScript {
			b = append(b, someText(r)...)
		}
		checkModel(t, b)
	}
}

// TestSealMemory holds the rule on memory for Sum and Seal: bodies, and what lies behind them, stay; results are new.
func TestSealMemory(t *testing.T) {
	for _, n := range []int{0, 1, 2, 60, 119, 120, 121, 300} {
		body := withSpare(rising(n, 5))
		old := slices.Clone(whole(body))
		sum := record.Sum(body)
		first, _ := record.Seal(body)
		second, e := record.Seal(body)
		kept := slices.Clone(second)
		if !bytes.Equal(whole(body), old) {
			t.Errorf("Sum, Seal: of %v, %v is left", old, whole(body))
		}
		fill(first, 33)
		if !bytes.Equal(second, kept) || !bytes.Equal(whole(body), old) {
			t.Errorf("Seal of %d bytes: what it answers shares memory", n)
		}
		fill(body, 44)
		if !bytes.Equal(second, kept) {
			t.Errorf("Seal of %d bytes: %v once the body changes", n, second)
		}
		if want := sealed(rising(n, 5)...); e == api.OK && !bytes.Equal(kept, want) || sum != checksum(rising(n, 5)) {
			t.Errorf("%d bytes: %v, %d", n, kept, sum)
		}
	}
}

// TestSplitMemory holds the rule on memory for Split and Count: bytes, and what lies behind them, stay; the list and each body are new.
func TestSplitMemory(t *testing.T) {
	text := slices.Concat(sealed(5), sealed(6, 7), []byte{0}, sealed(5), spoilt(sealed(8, 9), -1, 1), sealed(rising(120, 3)...), []byte{4, 1})
	want := divided(text)
	b := withSpare(text)
	old := slices.Clone(whole(b))
	first, second := record.Split(b), record.Split(b)
	record.Count(b)
	if !bytes.Equal(whole(b), old) {
		t.Fatalf("Split, Count: of %v, %v is left", old, whole(b))
	}
	for i := range first {
		// What is put behind a body, or into it, is in no other one.
		_ = append(first[i].Body, 66, 67, 68, 69)
		for j, r := range first[i+1:] {
			if !equal(r, want[i+1+j]) {
				t.Fatalf("record %d: %v once record %d changes", i+1+j, r, i)
			}
		}
		fill(first[i].Body, 99)
		for j, r := range first[i+1:] {
			if !equal(r, want[i+1+j]) {
				t.Fatalf("record %d: %v once record %d changes", i+1+j, r, i)
			}
		}
		first[i] = record.Record{At: -1, Len: -1, Body: []byte{1}, E: api.ErrNil}
	}
	if !slices.EqualFunc(second, want, equal) || !bytes.Equal(whole(b), old) {
		t.Fatalf("two results share memory, or one and the bytes: %v, %v", second, whole(b))
	}
	fill(b, 1)
	if !slices.EqualFunc(second, want, equal) {
		t.Errorf("%v once the bytes change", second)
	}
}

// TestRoundTrip holds P10.3: bodies whose records are concatenated are the bodies of the records, in order.
func TestRoundTrip(t *testing.T) {
	r := rand.New(rand.NewSource(1031))
	lists := [][][]byte{nil}
	var each [][]byte
	for n := 1; n <= longest; n++ {
		lists = append(lists, [][]byte{someBytes(r, n)})
		each = append(each, someBytes(r, n), times(n, 0), times(n, 255))
	}
	lists = append(lists, each)
	for range 2000 {
		var bodies [][]byte
		for range r.Intn(12) {
			bodies = append(bodies, someBytes(r, 1+r.Intn(longest)))
		}
		lists = append(lists, bodies)
	}
	for _, bodies := range lists {
		checkRoundTrip(t, bodies)
	}
}

func checkRoundTrip(t *testing.T, bodies [][]byte) {
	t.Helper()
	var b []byte
	for _, body := range bodies {
		one, e := record.Seal(body)
		if e != api.OK {
			t.Fatalf("Seal(%v): %d", body, e)
		}
		b = append(b, one...)
	}
	records := record.Split(b)
	if len(records) != len(bodies) {
		t.Fatalf("%d records of %d bodies", len(records), len(bodies))
	}
	for i, body := range bodies {
		if records[i].E != api.OK || !bytes.Equal(records[i].Body, body) {
			t.Fatalf("record %d of %v: %v", i, body, records[i])
		}
	}
	if right, wrong := record.Count(b); right != len(bodies) || wrong != 0 {
		t.Fatalf("Count of %d bodies: %d, %d", len(bodies), right, wrong)
	}
}

// TestPartition holds P10.4: every byte belongs to exactly one record; Count counts the same ones.
func TestPartition(t *testing.T) {
	r := rand.New(rand.NewSource(104))
	for range 20000 {
		b := someText(r)
		if r.Intn(2) == 0 {
			b = someBytes(r, r.Intn(200))
		}
		at, valid := 0, 0
		records := record.Split(b)
		for _, one := range records {
			if one.At != at || one.Len < 1 || one.Len > longest+2 {
				t.Fatalf("a record of %d bytes from %d on, with %d ahead of it: %v", one.Len, one.At, at, b)
			}
			at += one.Len
			if one.E == api.OK {
				valid++
			}
		}
		if at != len(b) {
			t.Fatalf("%d bytes of %d are in records: %v", at, len(b), b)
		}
		if right, wrong := record.Count(b); right != valid || wrong != len(records)-valid {
			t.Fatalf("Count(%v): %d, %d; want %d, %d", b, right, wrong, valid, len(records)-valid)
		}
	}
}

// TestChangedByte holds P10.5: a record in which one byte other than the first is changed, to whatever value, is invalid, and is still one record.
func TestChangedByte(t *testing.T) {
	r := rand.New(rand.NewSource(105))
	bodies := [][]byte{{0}, {255}, {5, 5}, times(119, 1), times(120, 0), times(120, 255), rising(120, 1), someBytes(r, 120)}
	for n := 1; n <= longest; n += 7 {
		bodies = append(bodies, someBytes(r, n))
	}
	for _, body := range bodies {
		one, e := record.Seal(body)
		if e != api.OK {
			t.Fatal(body, e)
		}
		for at := 1; at < len(one); at++ {
			for by := 1; by < 256; by++ {
				checkInvalid(t, spoilt(one, at, byte(by)))
			}
		}
	}
}

// checkInvalid holds that bytes are one invalid record, alone and between two others.
func checkInvalid(t *testing.T, b []byte) {
	t.Helper()
	if got := record.Split(b); len(got) != 1 || !equal(got[0], wrong(0, len(b))) {
		t.Fatalf("Split(%v): %v", b, got)
	}
	want := []record.Record{right(0, 5), wrong(3, len(b)), right(3+len(b), 6, 7)}
	if got := record.Split(slices.Concat(sealed(5), b, sealed(6, 7))); !slices.EqualFunc(got, want, equal) {
		t.Fatalf("%v between others: %v", b, got)
	}
	if right, wrong := record.Count(b); right != 0 || wrong != 1 {
		t.Fatalf("Count(%v): %d, %d", b, right, wrong)
	}
}
