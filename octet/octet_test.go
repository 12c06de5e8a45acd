package octet_test

import (
	"bytes"
	"fmt"
	"math"
	"math/big"
	"math/rand"
	"slices"
	"testing"

	"dogwatch/api"
	"dogwatch/octet"
)

const greatest = math.MaxUint64

// encoded is what the terms say of a number, reckoned with numbers of any length.
func encoded(n *big.Int) []byte {
	n = new(big.Int).Set(n)
	var groups []byte
	for base := big.NewInt(128); ; {
		group := new(big.Int)
		n.DivMod(n, base, group)
		groups = append(groups, byte(group.Int64()))
		if n.Sign() == 0 {
			break
		}
	}
	for i := range groups[:len(groups)-1] {
		groups[i] += 128
	}
	return groups
}

func numberOf(n uint64) *big.Int { return new(big.Int).SetUint64(n) }

// value is what groups of seven bits stand for, however many there are.
func value(b []byte) *big.Int {
	n := new(big.Int)
	for _, x := range slices.Backward(b) {
		n.Mul(n, big.NewInt(128))
		n.Add(n, big.NewInt(int64(x%128)))
	}
	return n
}

// A model is what P9.2 says of a reader, word by word: all bytes, and a position in them.
type model struct {
	b   []byte
	at  int
	err api.Errno
}

func (m *model) Num(most uint64) uint64 {
	if m.err != api.OK {
		return 0
	}
	rest := m.b[m.at:]
	length := 1 + slices.IndexFunc(rest, func(x byte) bool { return x < 128 })
	if len(rest) >= 10 && (length == 0 || length > 10) || length == 0 {
		m.err = api.ErrForm
		return 0
	}
	n := value(rest[:length])
	if !n.IsUint64() || !bytes.Equal(encoded(n), rest[:length]) {
		m.err = api.ErrForm
		return 0
	}
	if n.Cmp(numberOf(most)) > 0 {
		m.err = api.ErrOver
		return 0
	}
	m.at += length
	return n.Uint64()
}

func (m *model) Raw(n int) []byte {
	if m.err != api.OK {
		return nil
	}
	if n < 0 {
		m.err = api.ErrArg
		return nil
	}
	if n > len(m.b)-m.at {
		m.err = api.ErrForm
		return nil
	}
	m.at += n
	return m.b[m.at-n : m.at]
}

func (m *model) Left() int {
	if m.err != api.OK {
		return 0
	}
	return len(m.b) - m.at
}

func (m *model) Err() api.Errno { return m.err }

func (m *model) End() api.Errno {
	if m.err == api.OK && m.at < len(m.b) {
		return api.ErrForm
	}
	return m.err
}

func TestModels(t *testing.T) {
	if b := encoded(numberOf(300)); !bytes.Equal(b, []byte{172, 2}) {
		t.Error(b)
	}
	if b := encoded(numberOf(0)); !bytes.Equal(b, []byte{0}) {
		t.Error(b)
	}
	if n := value([]byte{172, 2}); n.Int64() != 300 {
		t.Error(n)
	}
	m := &model{b: []byte{9, 172, 2, 128, 0}}
	if x := m.Raw(1); !bytes.Equal(x, []byte{9}) || m.Left() != 4 || m.Num(300) != 300 || m.End() != api.ErrForm || m.Err() != api.OK {
		t.Error(x, m)
	}
	if m.Num(greatest) != 0 || m.Left() != 0 || m.Err() != api.ErrForm || m.End() != api.ErrForm {
		t.Error(m)
	}
	if m := (&model{b: []byte{10, 1}}); m.Num(9) != 0 || m.Left() != 0 || m.Raw(-1) != nil || m.End() != api.ErrOver {
		t.Error(m)
	}
}

// edgeNums are the numbers at which something changes, each once: the powers of 2, those of 128 among them, with their neighbours, and all below 1000.
func edgeNums() []uint64 {
	found := []uint64{greatest, greatest - 1, greatest / 2, 172, 300}
	for n := range uint64(1000) {
		found = append(found, n)
	}
	for i := range 64 {
		power := uint64(1) << i
		found = append(found, power-1, power, power+1, power+power/2, -power, -power-1, -power+1)
	}
	slices.Sort(found)
	return slices.Compact(found)
}

// someNum has any number of bits.
func someNum(r *rand.Rand) uint64 { return r.Uint64() >> r.Intn(64) }

func someNums(r *rand.Rand, n int) []uint64 {
	l := make([]uint64, n)
	for i := range l {
		l[i] = someNum(r)
	}
	return l
}

// times is a byte n times over, and some bytes behind these.
func times(n int, x byte, behind ...byte) []byte {
	return append(bytes.Repeat([]byte{x}, n), behind...)
}

// A known is a number, and the bytes that the terms have it be.
type known struct {
	n uint64
	b []byte
}

func knownNums() []known {
	return []known{
		{0, []byte{0}},
		{1, []byte{1}},
		{2, []byte{2}},
		{126, []byte{126}},
		{127, []byte{127}},
		{128, []byte{128, 1}},
		{129, []byte{129, 1}},
		{255, []byte{255, 1}},
		{256, []byte{128, 2}},
		{300, []byte{172, 2}},
		{16383, []byte{255, 127}},
		{16384, []byte{128, 128, 1}},
		{16385, []byte{129, 128, 1}},
		{1<<21 - 1, []byte{255, 255, 127}},
		{1 << 21, []byte{128, 128, 128, 1}},
		{1<<28 - 1, []byte{255, 255, 255, 127}},
		{1 << 28, []byte{128, 128, 128, 128, 1}},
		{1 << 31, []byte{128, 128, 128, 128, 8}},
		{1<<32 - 1, []byte{255, 255, 255, 255, 15}},
		{1 << 32, []byte{128, 128, 128, 128, 16}},
		{1<<35 - 1, times(4, 255, 127)},
		{1 << 35, times(5, 128, 1)},
		{1<<42 - 1, times(5, 255, 127)},
		{1 << 42, times(6, 128, 1)},
		{1<<49 - 1, times(6, 255, 127)},
		{1 << 49, times(7, 128, 1)},
		{1<<56 - 1, times(7, 255, 127)},
		{1 << 56, times(8, 128, 1)},
		{1<<63 - 1, times(8, 255, 127)},
		{1 << 63, times(9, 128, 1)},
		{1<<63 + 1, []byte{129, 128, 128, 128, 128, 128, 128, 128, 128, 1}},
		{greatest - 1, []byte{254, 255, 255, 255, 255, 255, 255, 255, 255, 1}},
		{greatest, times(9, 255, 1)},
	}
}

// TestKnownNums holds P9.1 for Num at the edges that it has.
func TestKnownNums(t *testing.T) {
	for _, k := range knownNums() {
		if b := octet.Num(k.n); !bytes.Equal(b, k.b) {
			t.Errorf("Num(%d): %v; want %v", k.n, b, k.b)
		}
	}
}

// TestNum holds P9.1 for Num.
func TestNum(t *testing.T) {
	r := rand.New(rand.NewSource(911))
	for _, n := range slices.Concat(edgeNums(), someNums(r, 50000)) {
		if b := octet.Num(n); !bytes.Equal(b, encoded(numberOf(n))) {
			t.Errorf("Num(%d): %v; want %v", n, b, encoded(numberOf(n)))
		}
	}
}

func TestKnownPuts(t *testing.T) {
	type row struct {
		b    []byte
		l    []uint64
		want []byte
	}
	for _, k := range []row{
		{nil, nil, nil},
		{[]byte{}, []uint64{}, nil},
		{nil, []uint64{0}, []byte{0}},
		{nil, []uint64{0, 0}, []byte{0, 0}},
		{nil, []uint64{128, 0, 300}, []byte{128, 1, 0, 172, 2}},
		{[]byte{9}, nil, []byte{9}},
		{[]byte{9}, []uint64{0, greatest, 128}, slices.Concat([]byte{9, 0}, times(9, 255, 1), []byte{128, 1})},
		// The bytes ahead may be anything, and are no part of a number.
		{[]byte{128}, []uint64{0}, []byte{128, 0}},
		{[]byte{255, 255}, []uint64{1, 2}, []byte{255, 255, 1, 2}},
		{[]byte{0, 0, 0}, []uint64{16384}, []byte{0, 0, 0, 128, 128, 1}},
		// The order stays, and so do those that are there more than once.
		{[]byte{7}, []uint64{3, 1, 2, 1, 3, 3}, []byte{7, 3, 1, 2, 1, 3, 3}},
	} {
		if b := octet.Put(k.b, k.l...); !bytes.Equal(b, k.want) {
			t.Errorf("Put(%v, %v): %v; want %v", k.b, k.l, b, k.want)
		}
	}
}

// TestPut holds P9.1 for Put, for any bytes and any numbers, few and many, with spare capacity and without.
func TestPut(t *testing.T) {
	r := rand.New(rand.NewSource(912))
	for i := range 3000 {
		b, l := someBytes(r, r.Intn(20)), someNums(r, r.Intn(8))
		if i%1000 == 0 {
			l = someNums(r, 20000)
		}
		want := slices.Clone(b)
		for _, n := range l {
			want = append(want, encoded(numberOf(n))...)
		}
		for _, head := range [][]byte{withSpare(b), slices.Clip(b)} {
			if got := octet.Put(head, l...); !bytes.Equal(got, want) {
				t.Fatalf("Put(%v, %v): %v; want %v", b, l, got, want)
			}
		}
	}
}

func someBytes(r *rand.Rand, n int) []byte {
	b := make([]byte, n)
	r.Read(b)
	return b
}

// withSpare is bytes behind which, in the same memory, other ones lie.
func withSpare(b []byte) []byte {
	return append(slices.Clone(b), times(40, 77)...)[:len(b)]
}

// whole is bytes with what lies behind them.
func whole(b []byte) []byte { return b[:cap(b)] }

// fill overwrites bytes and what lies behind them.
func fill(b []byte, x byte) {
	for i := range whole(b) {
		whole(b)[i] = x
	}
}

// TestPutMemory holds the rule on memory for Num and Put: arguments, and what lies behind them, stay; results are new.
func TestPutMemory(t *testing.T) {
	numbers := [][]uint64{nil, {0}, {127}, {128}, {1, 300, greatest}, {greatest, greatest, greatest}}
	for _, b := range [][]byte{nil, {}, {9}, {128}, {1, 2, 3, 4, 5}} {
		for _, l := range numbers {
			for _, head := range [][]byte{withSpare(b), slices.Clip(slices.Clone(b))} {
				// There are other numbers behind these in the same memory.
				checkPutMemory(t, head, append(slices.Clone(l), 5, 6, 7)[:len(l)])
			}
		}
	}
	for _, k := range knownNums() {
		first, second := octet.Num(k.n), octet.Num(k.n)
		fill(first, 33)
		if !bytes.Equal(second, k.b) || !bytes.Equal(octet.Num(k.n), k.b) {
			t.Errorf("Num(%d): two results share memory", k.n)
		}
	}
}

func checkPutMemory(t *testing.T, b []byte, l []uint64) {
	t.Helper()
	oldBytes, oldNums := slices.Clone(whole(b)), slices.Clone(l[:cap(l)])
	first, second := octet.Put(b, l...), octet.Put(b, l...)
	kept := slices.Clone(second)
	fill(first, 33)
	if !bytes.Equal(whole(b), oldBytes) || !slices.Equal(l[:cap(l)], oldNums) {
		t.Errorf("Put: of the arguments %v and %v, %v and %v are left", oldBytes, oldNums, whole(b), l[:cap(l)])
	}
	if !bytes.Equal(second, kept) || !bytes.Equal(octet.Put(b, l...), kept) {
		t.Errorf("Put(%v, %v): two results share memory", b, l)
	}
	fill(b, 44)
	if !bytes.Equal(second, kept) {
		t.Errorf("Put(%v, %v): the result is %v once the bytes change", oldBytes, l, second)
	}
}

// checkState holds what a reader tells of itself, which no question changes.
func checkState(t *testing.T, what string, r *octet.Reader, left int, e, end api.Errno) {
	t.Helper()
	for range 2 {
		if r.Left() != left || r.Err() != e || r.End() != end {
			t.Fatalf("%s: Left %d, Err %d, End %d; want %d, %d, %d", what, r.Left(), r.Err(), r.End(), left, e, end)
		}
	}
}

// checkFailed holds that a reader has failed with this error, and stays so whatever is called.
func checkFailed(t *testing.T, what string, r *octet.Reader, e api.Errno) {
	t.Helper()
	checkState(t, what, r, 0, e, e)
	for _, n := range []int{0, 1, -1, 1 << 40, math.MinInt} {
		if b := r.Raw(n); len(b) != 0 {
			t.Fatalf("%s, then Raw(%d): %v", what, n, b)
		}
		checkState(t, what+", then Raw", r, 0, e, e)
	}
	for _, most := range []uint64{0, 1, greatest} {
		if n := r.Num(most); n != 0 {
			t.Fatalf("%s, then Num(%d): %d", what, most, n)
		}
		checkState(t, what+", then Num", r, 0, e, e)
	}
}

// checkNum holds what a new reader of these bytes answers to Num, and how it stands then.
func checkNum(t *testing.T, b []byte, most, n uint64, left int, e api.Errno) {
	t.Helper()
	r := octet.Open(b)
	what := fmt.Sprintf("Num(%d) of %v", most, b)
	if got := r.Num(most); got != n {
		t.Fatalf("%s: %d; want %d", what, got, n)
	}
	if e != api.OK {
		checkFailed(t, what, r, e)
		return
	}
	end := api.OK
	if left > 0 {
		end = api.ErrForm
	}
	checkState(t, what, r, left, api.OK, end)
}

// TestNumMost holds P9.2 for the most that a number may be: below it, at it and above it.
func TestNumMost(t *testing.T) {
	for _, n := range edgeNums() {
		b := octet.Num(n)
		for _, behind := range [][]byte{nil, {0}, {128}, {1, 2, 3}} {
			all := slices.Concat(b, behind)
			checkNum(t, all, n, n, len(behind), api.OK)
			checkNum(t, all, greatest, n, len(behind), api.OK)
			if n < greatest {
				checkNum(t, all, n+1, n, len(behind), api.OK)
			}
			if n > 0 {
				checkNum(t, all, n-1, 0, 0, api.ErrOver)
				checkNum(t, all, n/2, 0, 0, api.ErrOver)
				checkNum(t, all, 0, 0, 0, api.ErrOver)
			}
		}
	}
	// Numbers of one more bit than an int has are held against each other as they are.
	checkNum(t, times(9, 128, 1), 1<<63-1, 0, 0, api.ErrOver)
	checkNum(t, times(8, 255, 127), 1<<63, 1<<63-1, 0, api.OK)
	checkNum(t, times(9, 255, 1), greatest-1, 0, 0, api.ErrOver)
}

// malformed are bytes that begin with no number.
func malformed() [][]byte {
	return [][]byte{
		nil,
		{},
		// They end before the last byte.
		{128},
		{255},
		{129},
		{172},
		{128, 128},
		{255, 128},
		times(8, 128),
		times(8, 255),
		times(9, 128),
		times(9, 255),
		// Ten bytes that all are 128 or more: alone, and with more behind them.
		times(10, 128),
		times(10, 255),
		times(10, 128, 0),
		times(10, 128, 1),
		times(10, 255, 1),
		times(10, 129, 127),
		times(11, 128),
		times(11, 255, 1),
		times(20, 128, 1),
		times(9, 128, 129),
		times(9, 128, 129, 0),
		// Numbers that are not below 2^64.
		times(9, 128, 2),
		times(9, 255, 2),
		times(9, 128, 3),
		times(9, 128, 4),
		times(9, 128, 64),
		times(9, 128, 126),
		times(9, 128, 127),
		times(9, 255, 127),
		times(9, 255, 2, 5, 6),
		// They are not as short as possible: by one byte, and by more.
		{128, 0},
		{129, 0},
		{255, 0},
		{172, 130, 0},
		{128, 128, 0},
		{129, 128, 0},
		{255, 128, 0},
		{255, 255, 0},
		{128, 129, 0},
		times(8, 128, 0),
		times(9, 128, 0),
		times(9, 255, 0),
		times(1, 129, times(8, 128, 0)...),
		{128, 0, 1},
		{255, 0, 0},
	}
}

// TestMalformed holds P9.2: no number is ErrForm, whatever the most is, as ErrOver comes last.
func TestMalformed(t *testing.T) {
	for _, b := range malformed() {
		for _, most := range []uint64{0, 1, 9, 127, 128, 1<<63 - 1, 1 << 63, greatest - 1, greatest} {
			checkNum(t, b, most, 0, 0, api.ErrForm)
		}
	}
}

// TestTenthByte holds P9.2 for each tenth byte, and each one behind fewer bytes.
func TestTenthByte(t *testing.T) {
	for x := range 256 {
		b := append(times(9, 128), byte(x))
		switch x {
		case 1:
			checkNum(t, b, greatest, 1<<63, 0, api.OK)
			checkNum(t, b, 1<<63-1, 0, 0, api.ErrOver)
		default:
			checkNum(t, b, greatest, 0, 0, api.ErrForm)
			checkNum(t, append(b, 1), greatest, 0, 0, api.ErrForm)
		}
	}
	for length := 1; length <= 8; length++ {
		for x := 1; x < 128; x++ {
			b := append(times(length, 128), byte(x))
			checkNum(t, append(b, 9, 9), greatest, uint64(x)<<(7*length), 2, api.OK)
		}
		checkNum(t, append(times(length, 255), 0), greatest, 0, 0, api.ErrForm)
	}
}

// TestFewBytes holds P9.2 for all texts of up to four of the bytes at the edges.
func TestFewBytes(t *testing.T) {
	texts := [][]byte{nil}
	for from := 0; len(texts[len(texts)-1]) < 4; {
		to := len(texts)
		for _, b := range texts[from:to] {
			for _, x := range []byte{0, 1, 2, 127, 128, 129, 255} {
				texts = append(texts, append(slices.Clone(b), x))
			}
		}
		from = to
	}
	for _, b := range texts {
		for _, most := range []uint64{0, 1, 127, 128, 255, 16383, greatest} {
			m := &model{b: b}
			n := m.Num(most)
			checkNum(t, b, most, n, m.Left(), m.err)
		}
	}
}

// checkRaw holds what a new reader of these bytes answers to Raw, and how it stands then.
func checkRaw(t *testing.T, b []byte, n int, e api.Errno) {
	t.Helper()
	r := octet.Open(b)
	what := fmt.Sprintf("Raw(%d) of %v", n, b)
	got := r.Raw(n)
	if e != api.OK {
		if len(got) != 0 {
			t.Fatalf("%s: %v", what, got)
		}
		checkFailed(t, what, r, e)
		return
	}
	if !bytes.Equal(got, b[:n]) {
		t.Fatalf("%s: %v", what, got)
	}
	end := api.OK
	if n < len(b) {
		end = api.ErrForm
	}
	checkState(t, what, r, len(b)-n, api.OK, end)
}

// TestRaw holds P9.2 for Raw: below 0, none, all that is left, and more.
func TestRaw(t *testing.T) {
	for _, b := range [][]byte{nil, {}, {0}, {128}, {255, 255}, {1, 2, 3, 4, 5}, times(300, 7)} {
		for n := 0; n <= len(b); n++ {
			checkRaw(t, b, n, api.OK)
			checkRaw(t, withSpare(b), n, api.OK)
		}
		for _, more := range []int{1, 2, 9, 39, 40, 1 << 20} {
			checkRaw(t, b, len(b)+more, api.ErrForm)
			// What lies behind the bytes is none of them.
			checkRaw(t, withSpare(b), len(b)+more, api.ErrForm)
		}
		for _, n := range []int{math.MaxInt, math.MaxInt - 1, 1 << 62, 1 << 32, 1 << 40} {
			checkRaw(t, b, n, api.ErrForm)
		}
		for _, n := range []int{-1, -2, -5, -1 << 32, -1 << 40, math.MinInt, math.MinInt + 1} {
			checkRaw(t, b, n, api.ErrArg)
		}
	}
	// Piece by piece, up to the end and past it.
	r := octet.Open([]byte{1, 2, 3, 4, 5, 6})
	for i, want := range [][]byte{{}, {1}, {2, 3}, {}, {4, 5, 6}, {}} {
		if got := r.Raw(len(want)); !bytes.Equal(got, want) {
			t.Error(i, got)
		}
	}
	checkState(t, "all", r, 0, api.OK, api.OK)
	if got := r.Raw(1); len(got) != 0 {
		t.Error(got)
	}
	checkFailed(t, "past the end", r, api.ErrForm)
}

// TestState holds P9.2 for Left, Err and End at the beginning, in the middle and at the end.
func TestState(t *testing.T) {
	checkState(t, "of nil", octet.Open(nil), 0, api.OK, api.OK)
	checkState(t, "of no bytes", octet.Open([]byte{}), 0, api.OK, api.OK)
	r := octet.Open([]byte{5, 172, 2, 8, 9, 128, 1})
	checkState(t, "beginning", r, 7, api.OK, api.ErrForm)
	if n := r.Num(5); n != 5 {
		t.Error(n)
	}
	checkState(t, "a number", r, 6, api.OK, api.ErrForm)
	if n := r.Num(300); n != 300 {
		t.Error(n)
	}
	checkState(t, "two numbers", r, 4, api.OK, api.ErrForm)
	if b := r.Raw(2); !bytes.Equal(b, []byte{8, 9}) {
		t.Error(b)
	}
	checkState(t, "and two bytes", r, 2, api.OK, api.ErrForm)
	if n := r.Num(greatest); n != 128 {
		t.Error(n)
	}
	checkState(t, "end", r, 0, api.OK, api.OK)
	if b := r.Raw(0); len(b) != 0 {
		t.Error(b)
	}
	checkState(t, "nothing more", r, 0, api.OK, api.OK)
	if n := r.Num(greatest); n != 0 {
		t.Error(n)
	}
	checkFailed(t, "past the end", r, api.ErrForm)
}

// TestExamples holds the examples of the chapter.
func TestExamples(t *testing.T) {
	if b := octet.Num(300); !bytes.Equal(b, []byte{172, 2}) {
		t.Error(b)
	}
	checkNum(t, []byte{128, 0}, greatest, 0, 0, api.ErrForm)
	checkNum(t, []byte{10, 1}, 9, 0, 0, api.ErrOver)
	r := octet.Open(octet.Put([]byte{9}, 0, greatest, 128))
	if b := r.Raw(1); !bytes.Equal(b, []byte{9}) {
		t.Error(b)
	}
	if a, b, c := r.Num(0), r.Num(greatest), r.Num(200); a != 0 || b != greatest || c != 128 {
		t.Error(a, b, c)
	}
	checkState(t, "all is read", r, 0, api.OK, api.OK)
}

// TestFirstErrorStays holds P9.2: behind each error, with bytes left that could be read, nothing else comes; End alone is no failure.
func TestFirstErrorStays(t *testing.T) {
	type row struct {
		what string
		b    []byte
		fail func(r *octet.Reader)
		e    api.Errno
	}
	for _, k := range []row{
		{"too great", []byte{10, 1, 2, 3}, func(r *octet.Reader) { r.Num(9) }, api.ErrOver},
		{"too long", []byte{128, 0, 1, 2, 3}, func(r *octet.Reader) { r.Num(9) }, api.ErrForm},
		{"no end", times(12, 128, 1, 2), func(r *octet.Reader) { r.Num(9) }, api.ErrForm},
		{"below 0", []byte{1, 2, 3}, func(r *octet.Reader) { r.Raw(-1) }, api.ErrArg},
		{"too many", []byte{1, 2, 3}, func(r *octet.Reader) { r.Raw(4) }, api.ErrForm},
		{"over, then others", []byte{1, 128, 0}, func(r *octet.Reader) { r.Num(0); r.Raw(-1); r.Num(9); r.Raw(9) }, api.ErrOver},
		{"arg, then others", []byte{1, 128, 0}, func(r *octet.Reader) { r.Raw(-1); r.Num(0); r.Raw(9); r.Num(9) }, api.ErrArg},
		{"form, then others", []byte{1, 128, 0}, func(r *octet.Reader) { r.Raw(9); r.Raw(-1); r.Num(0); r.Num(9) }, api.ErrForm},
	} {
		for read := range 3 {
			r := octet.Open(slices.Concat([]byte{7, 8, 9}[:read], k.b))
			r.Raw(read)
			k.fail(r)
			checkFailed(t, k.what, r, k.e)
		}
	}
	// What End asks for is no failure: the reader goes on.
	r := octet.Open([]byte{1, 2})
	if r.End() != api.ErrForm || r.Err() != api.OK || r.Num(1) != 1 || r.End() != api.ErrForm || !bytes.Equal(r.Raw(1), []byte{2}) || r.End() != api.OK {
		t.Error(r.Err())
	}
}

// TestNoReader holds P9.2 for a reader that is nil.
func TestNoReader(t *testing.T) {
	var r *octet.Reader
	checkFailed(t, "nil", r, api.ErrNil)
}

// TestZeroReader holds P9.2 for a zero Reader: it is one of no bytes.
func TestZeroReader(t *testing.T) {
	var idle octet.Reader
	checkState(t, "zero", &idle, 0, api.OK, api.OK)
	if b := idle.Raw(0); len(b) != 0 {
		t.Error(b)
	}
	checkState(t, "zero, then Raw(0)", &idle, 0, api.OK, api.OK)
	for what, e := range map[string]api.Errno{"Num": api.ErrForm, "Raw(1)": api.ErrForm, "Raw(-1)": api.ErrArg} {
		var r octet.Reader
		switch what {
		case "Num":
			if n := r.Num(greatest); n != 0 {
				t.Error(n)
			}
		case "Raw(1)":
			if b := r.Raw(1); len(b) != 0 {
				t.Error(b)
			}
		case "Raw(-1)":
			if b := r.Raw(-1); len(b) != 0 {
				t.Error(b)
			}
		}
		checkFailed(t, "zero, then "+what, &r, e)
	}
}

// someText has numbers, some of them spoilt, and bytes of any kind.
func someText(r *rand.Rand) []byte {
	var b []byte
	for range r.Intn(8) {
		switch r.Intn(8) {
		case 0:
			b = append(b, someBytes(r, r.Intn(4))...)
		case 1:
			b = append(b, malformed()[r.Intn(len(malformed()))]...)
		default:
			b = append(b, encoded(numberOf(someNum(r)))...)
		}
	}
	return b
}

// TestReader holds P9.2 for any bytes and any calls, several readers at once.
func TestReader(t *testing.T) {
	r := rand.New(rand.NewSource(92))
	for range 20000 {
		b := someText(r)
		readers := []*octet.Reader{octet.Open(withSpare(b)), octet.Open(b)}
		models := []*model{{b: b}, {b: b}}
		for range r.Intn(16) {
			i := r.Intn(2)
			step(t, r, readers[i], models[i])
			for i, m := range models {
				checkState(t, fmt.Sprint("reader ", i, " of ", b), readers[i], m.Left(), m.Err(), m.End())
			}
		}
	}
}

// step has a reader and a model do the same.
func step(t *testing.T, r *rand.Rand, reader *octet.Reader, m *model) {
	t.Helper()
	if r.Intn(3) == 0 {
		n := r.Intn(4)
		switch r.Intn(12) {
		case 0:
			n = -1 - r.Intn(3)
		case 1:
			n = m.Left() + r.Intn(2)
		}
		if got, want := reader.Raw(n), m.Raw(n); !bytes.Equal(got, want) {
			t.Fatalf("Raw(%d) of %v: %v; want %v", n, m.b, got, want)
		}
		return
	}
	most := uint64(greatest)
	if r.Intn(4) == 0 {
		most = someNum(r)
	}
	if got, want := reader.Num(most), m.Num(most); got != want {
		t.Fatalf("Num(%d) of %v: %d; want %d", most, m.b, got, want)
	}
}

// TestReaderMemory holds the rule on memory for readers: what is done with the bytes that one was opened on, or with those that it gave, changes nothing, and reading changes no bytes.
func TestReaderMemory(t *testing.T) {
	b := withSpare([]byte{172, 2, 5, 6, 7, 8, 128, 1})
	old := slices.Clone(whole(b))
	r, other := octet.Open(b), octet.Open(b)
	if n := other.Num(greatest); n != 300 {
		t.Error(n)
	}
	first, second := other.Raw(2), other.Raw(2)
	if !bytes.Equal(whole(b), old) {
		t.Errorf("%v was read, and is %v", old, whole(b))
	}
	// What it gave is its own memory, with what lies behind it.
	fill(first, 99)
	if !bytes.Equal(second, []byte{7, 8}) || !bytes.Equal(whole(b), old) {
		t.Error(second, whole(b))
	}
	fill(second, 98)
	if len(first) != 2 || first[0] != 99 || first[1] != 99 || !bytes.Equal(whole(b), old) {
		t.Error(first, whole(b))
	}
	if n := other.Num(greatest); n != 128 || other.End() != api.OK {
		t.Error(n, other.End())
	}
	// The bytes that it was opened on change before anything is read.
	fill(b, 128)
	checkState(t, "once the bytes change", r, 8, api.OK, api.ErrForm)
	if n := r.Num(greatest); n != 300 {
		t.Error(n)
	}
	fill(b, 0)
	rest := r.Raw(4)
	if !bytes.Equal(rest, []byte{5, 6, 7, 8}) {
		t.Error(rest)
	}
	fill(rest, 255)
	if n := r.Num(greatest); n != 128 || r.End() != api.OK {
		t.Error(n, r.End())
	}
	// Bytes that were given stay when the reader goes on, and when it fails.
	r = octet.Open([]byte{1, 2, 3, 128})
	first, second = r.Raw(1), r.Raw(2)
	if n := r.Num(greatest); n != 0 || !bytes.Equal(first, []byte{1}) || !bytes.Equal(second, []byte{2, 3}) {
		t.Error(n, first, second)
	}
}

// TestRawSpare holds that what is put behind the bytes that a reader gave is not put into it.
func TestRawSpare(t *testing.T) {
	b := withSpare([]byte{1, 2, 3, 4})
	old := slices.Clone(whole(b))
	r := octet.Open(b)
	for _, n := range []int{0, 1, 0, 1} {
		_ = append(r.Raw(n), 66, 67, 68, 69)
	}
	if n := r.Num(9); n != 3 || !bytes.Equal(whole(b), old) || !bytes.Equal(r.Raw(1), []byte{4}) {
		t.Error(n, whole(b))
	}
}

// TestCopiedReader holds that a reader and a copy of it share nothing: each reads on alone, and gives memory of its own.
func TestCopiedReader(t *testing.T) {
	r := octet.Open([]byte{9, 1, 2, 3, 172, 2})
	r.Num(9)
	other := *r
	first := r.Raw(3)
	fill(first, 99)
	if got := other.Raw(3); !bytes.Equal(got, []byte{1, 2, 3}) {
		t.Error(got)
	}
	if n := r.Num(299); n != 0 {
		t.Error(n)
	}
	checkFailed(t, "the one", r, api.ErrOver)
	if n := other.Num(300); n != 300 {
		t.Error(n)
	}
	checkState(t, "the other", &other, 0, api.OK, api.OK)
}

// TestRoundTrip holds P9.3: numbers that were written are read back, and nothing is left.
func TestRoundTrip(t *testing.T) {
	r := rand.New(rand.NewSource(931))
	lists := [][]uint64{nil, edgeNums(), someNums(r, 50000)}
	for range 5000 {
		lists = append(lists, someNums(r, r.Intn(12)))
	}
	for i, l := range lists {
		head := someBytes(r, i%5)
		reader := octet.Open(octet.Put(head, l...))
		if got := reader.Raw(len(head)); !bytes.Equal(got, head) {
			t.Fatalf("%v: %v", head, got)
		}
		for _, n := range l {
			if got := reader.Num(n); got != n {
				t.Fatalf("%d of %v: %d", n, l, got)
			}
		}
		checkState(t, "all numbers", reader, 0, api.OK, api.OK)
	}
	// One by one yields what all at once does.
	var b []byte
	for _, n := range lists[2] {
		b = append(b, octet.Num(n)...)
	}
	if !bytes.Equal(b, octet.Put(nil, lists[2]...)) {
		t.Error("Put")
	}
}

// TestNoPrefix holds P9.3: no encoding is another one, nor a prefix of it. In their order as texts, one that is a prefix is right ahead of one that it begins.
func TestNoPrefix(t *testing.T) {
	r := rand.New(rand.NewSource(932))
	numbers := slices.Concat(edgeNums(), someNums(r, 100000))
	for n := range uint64(1 << 17) {
		numbers = append(numbers, n)
	}
	slices.Sort(numbers)
	var all [][]byte
	for _, n := range slices.Compact(numbers) {
		all = append(all, octet.Num(n))
	}
	slices.SortFunc(all, bytes.Compare)
	for i := 1; i < len(all); i++ {
		if bytes.HasPrefix(all[i], all[i-1]) {
			t.Errorf("%v begins with %v", all[i], all[i-1])
		}
	}
}
