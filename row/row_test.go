package row_test

import (
	"bytes"
	"encoding/binary"
	"fmt"
	"math"
	"math/rand"
	"slices"
	"testing"

	"dogwatch/api"
	"dogwatch/row"
)

// equal tells whether rows are the same ones, number by number.
func equal(a, b [][]int) bool {
	if len(a) != len(b) {
		return false
	}
	for i := range a {
		if !slices.Equal(a[i], b[i]) {
			return false
		}
	}
	return true
}

// valid is what the terms say of rows for m cores, word by word.
func valid(m int, rows [][]int) bool {
	if m < 1 || m > 16 {
		return false
	}
	if len(rows) > 4096 {
		return false
	}
	for _, r := range rows {
		if len(r) != m {
			return false
		}
		for _, n := range r {
			if n < 0 || n > 200 {
				return false
			}
		}
	}
	return true
}

// checked is the result that P13.1 gives rows for m cores.
func checked(m int, rows [][]int) api.Errno {
	if valid(m, rows) {
		return api.OK
	}
	return api.ErrArg
}

// written is the encodings of numbers, one behind the other.
func written(numbers ...uint64) []byte {
	var b []byte
	for _, n := range numbers {
		b = binary.AppendUvarint(b, n)
	}
	return b
}

// numbersOf are the numbers that the terms have an encoding consist of, row by row: each is one more of the run behind it, or begins a run. Those of rows that are not valid may be no such thing.
func numbersOf(m int, rows [][]int) []uint64 {
	l := []uint64{uint64(m), uint64(len(rows))}
	run := 0
	for i, r := range rows {
		if i > 0 && slices.Equal(r, rows[i-1]) {
			l[run]++
			continue
		}
		run = len(l)
		l = append(l, 1)
		for _, n := range r {
			l = append(l, uint64(n))
		}
	}
	return l
}

func encoded(m int, rows [][]int) []byte { return written(numbersOf(m, rows)...) }

// read is the numbers whose encodings bytes are, to the last byte; ok tells whether there are such.
func read(b []byte) (numbers []uint64, ok bool) {
	for rest := b; len(rest) > 0; {
		n, length := binary.Uvarint(rest)
		if length <= 0 {
			return nil, false
		}
		numbers = append(numbers, n)
		rest = rest[length:]
	}
	return numbers, bytes.Equal(written(numbers...), b)
}

// decoded is the number of cores and the rows that P13.2 gives bytes; ok tells whether there are such.
func decoded(b []byte) (m int, rows [][]int, ok bool) {
	l, ok := read(b)
	if !ok || len(l) < 2 || l[0] < 1 || l[0] > 16 {
		return 0, nil, false
	}
	m = int(l[0])
	for l = l[2:]; len(l) > m; l = l[m+1:] {
		if l[0] > 4096 || slices.Max(l[1:m+1]) > 200 || len(rows) > 4096 {
			return 0, nil, false
		}
		for range l[0] {
			var r []int
			for _, n := range l[1 : m+1] {
				r = append(r, int(n))
			}
			rows = append(rows, r)
		}
	}
	if !valid(m, rows) || !bytes.Equal(encoded(m, rows), b) {
		return 0, nil, false
	}
	return m, rows, true
}

// counted is what P13.3 says of Count, word by word.
func counted(rows [][]int, task int) int {
	count := 0
	for _, n := range slices.Concat(rows...) {
		if n == task {
			count++
		}
	}
	return count
}

// alone is what P13.3 says of Alone, pair by pair.
func alone(rows [][]int) bool {
	for _, r := range rows {
		for i := range r {
			for j := range r {
				if i != j && r[i] == r[j] && r[i] != 0 {
					return false
				}
			}
		}
	}
	return true
}

// TestModels holds the models themselves against what is written down.
func TestModels(t *testing.T) {
	rows := [][]int{{1, 0}, {1, 0}, {0, 3}}
	b := []byte{2, 3, 2, 1, 0, 1, 0, 3}
	if got := encoded(2, rows); !bytes.Equal(got, b) {
		t.Error(got)
	}
	if m, got, ok := decoded(b); m != 2 || !equal(got, rows) || !ok {
		t.Error(m, got, ok)
	}
	if checked(2, rows) != api.OK || checked(3, rows) != api.ErrArg || checked(1, [][]int{{201}}) != api.ErrArg || checked(17, nil) != api.ErrArg {
		t.Error(checked(2, rows))
	}
	for _, b := range [][]byte{nil, {2}, {0, 0}, {17, 0}, {2, 2, 1, 1, 0, 1, 1, 0}, {2, 1, 1, 201, 0}, {2, 1, 1, 201, 1, 0}, {2, 1, 0, 1, 0}, {2, 1, 2, 1, 0}, {2, 0, 0}, {1, 1, 1, 128, 0}, {2, 1, 1, 1}} {
		if m, got, ok := decoded(b); m != 0 || len(got) != 0 || ok {
			t.Error(b, m, got)
		}
	}
	if counted(rows, 1) != 2 || counted(rows, 0) != 3 || counted(rows, 2) != 0 {
		t.Error(counted(rows, 1), counted(rows, 0))
	}
	if !alone(rows) || alone([][]int{{1, 0}, {3, 0, 3}}) {
		t.Error(alone(rows))
	}
}

// checkRows holds Check, Encode and Decode of rows against the models.
func checkRows(t *testing.T, m int, rows [][]int) {
	t.Helper()
	want := checked(m, rows)
	if e := row.Check(m, rows...); e != want {
		t.Fatalf("Check(%d, %v): %d; want %d", m, rows, e, want)
	}
	b, e := row.Encode(m, rows...)
	if e != want {
		t.Fatalf("Encode(%d, %v): the error %d; want %d", m, rows, e, want)
	}
	if want != api.OK && len(b) != 0 {
		t.Fatalf("Encode(%d, %v): %v beside an error", m, rows, b)
	}
	text := encoded(m, rows)
	if want == api.OK && !bytes.Equal(b, text) {
		t.Fatalf("Encode(%d, %v): %v; want %v", m, rows, b, text)
	}
	checkDecode(t, text)
	gotM, got, e := row.Decode(text)
	if want == api.OK && (gotM != m || !equal(got, rows) || e != api.OK) {
		t.Fatalf("Decode(%v): %d, %v, %d; of %d, %v", text, gotM, got, e, m, rows)
	}
}

// checkWrong holds that rows are not valid for m cores.
func checkWrong(t *testing.T, m int, rows [][]int) {
	t.Helper()
	if e := row.Check(m, rows...); e != api.ErrArg {
		t.Fatalf("Check(%d, %v): %d; want ErrArg", m, rows, e)
	}
	if b, e := row.Encode(m, rows...); e != api.ErrArg || len(b) != 0 {
		t.Fatalf("Encode(%d, %v): %v, %d; want ErrArg", m, rows, b, e)
	}
}

// checkKnown holds that rows are valid for m cores, and have these bytes.
func checkKnown(t *testing.T, m int, rows [][]int, b []byte) {
	t.Helper()
	if e := row.Check(m, rows...); e != api.OK {
		t.Fatalf("Check(%d, %v): %d", m, rows, e)
	}
	if got, e := row.Encode(m, rows...); e != api.OK || !bytes.Equal(got, b) {
		t.Fatalf("Encode(%d, %v): %v, %d; want %v", m, rows, got, e, b)
	}
	for _, given := range [][]byte{slices.Clip(slices.Clone(b)), withSpare(b)} {
		if gotM, got, e := row.Decode(given); gotM != m || !equal(got, rows) || e != api.OK {
			t.Fatalf("Decode(%v): %d, %v, %d; want %d, %v", b, gotM, got, e, m, rows)
		}
	}
}

// checkDecode holds Decode of bytes against the model.
func checkDecode(t *testing.T, b []byte) {
	t.Helper()
	wantM, want, ok := decoded(b)
	if !ok {
		checkNone(t, b)
		return
	}
	if m, rows, e := row.Decode(b); m != wantM || !equal(rows, want) || e != api.OK {
		t.Fatalf("Decode(%v): %d, %v, %d; want %d, %v", b, m, rows, e, wantM, want)
	}
}

// checkNone holds that bytes are no rows, whatever lies behind them in the same memory.
func checkNone(t *testing.T, b []byte) {
	t.Helper()
	for _, given := range [][]byte{slices.Clip(slices.Clone(b)), withSpare(b)} {
		if m, rows, e := row.Decode(given); m != 0 || len(rows) != 0 || e != api.ErrForm {
			t.Fatalf("Decode(%v): %d, %v, %d; want ErrForm", b, m, rows, e)
		}
	}
}

// withSpare is bytes behind which, in the same memory, other ones lie: each a number, so that they would end rows that are cut short.
func withSpare(b []byte) []byte {
	return slices.Concat(b, bytes.Repeat([]byte{1}, 40))[:len(b)]
}

// whole is a list with what lies behind it.
func whole[T any](l []T) []T { return l[:cap(l)] }

func fill[T any](l []T, x T) {
	for i := range whole(l) {
		whole(l)[i] = x
	}
}

// times is a byte n times over, and some bytes behind these.
func times(n int, x byte, behind ...byte) []byte {
	return append(bytes.Repeat([]byte{x}, n), behind...)
}

// copied is rows with memory of their own.
func copied(rows [][]int) [][]int {
	var all [][]int
	for _, r := range rows {
		all = append(all, slices.Clone(r))
	}
	return all
}

// equalRow is a row of m numbers that all differ.
func equalRow(m int) []int {
	r := make([]int, m)
	for i := range r {
		r[i] = 7 + i
	}
	return r
}

// equalRows are count rows of m numbers, all of them equal, each with memory of its own.
func equalRows(m, count int) [][]int {
	return copied(slices.Repeat([][]int{equalRow(m)}, count))
}

// differentRows are count rows of m numbers: all of them differ if there are two cores or more, and with one core each differs from the next 200.
func differentRows(m, count int) [][]int {
	var rows [][]int
	for i := range count {
		r := make([]int, m)
		r[m-1] = i % 201
		if m > 1 {
			r[0] = i / 201
		}
		rows = append(rows, r)
	}
	return rows
}

// edgeCores are the numbers of cores at which something changes, and some that are right ones in fewer bits.
func edgeCores() []int {
	return []int{-1, 0, 1, 2, 15, 16, 17, math.MaxInt, math.MinInt, -16, 18, 32, 127, 128, 256, 257, 1 << 32, 1<<32 + 1, -1 << 32}
}

// edgeNumbers are the numbers of a row at which something changes, and some that are right ones in fewer bits.
func edgeNumbers() []int {
	return []int{0, 1, 127, 128, 199, 200, 201, -1, math.MaxInt, math.MinInt, 2, 202, 255, 256, 257, -2, -200, 1 << 32, 1<<32 + 1, -1 << 32, 1000}
}

// places are the first, a middle and the last place of a list of this length.
func places(length int) []int {
	return slices.Compact([]int{0, length / 2, length - 1})
}

// TestExamples holds the examples of the chapter.
func TestExamples(t *testing.T) {
	rows := [][]int{{1, 0}, {1, 0}, {0, 3}}
	checkKnown(t, 2, rows, []byte{2, 3, 2, 1, 0, 1, 0, 3})
	if got := row.Count(rows, 1); got != 2 {
		t.Error(got)
	}
	if got := row.Count(rows, 0); got != 3 {
		t.Error(got)
	}
	if b, e := row.Encode(1); e != api.OK || !bytes.Equal(b, []byte{1, 0}) {
		t.Error(b, e)
	}
	checkNone(t, []byte{2, 2, 1, 1, 0, 1, 1, 0})
	checkNone(t, []byte{2, 1, 1, 201, 0})
	// This one has 201 as the encoding of a number.
	checkNone(t, []byte{2, 1, 1, 201, 1, 0})
}

// TestKnown holds P13.1 and P13.2 for rows whose bytes are written down.
func TestKnown(t *testing.T) {
	checkKnown(t, 1, nil, []byte{1, 0})
	checkKnown(t, 2, [][]int{}, []byte{2, 0})
	checkKnown(t, 16, nil, []byte{16, 0})
	checkKnown(t, 1, [][]int{{0}}, []byte{1, 1, 1, 0})
	checkKnown(t, 1, [][]int{{127}}, []byte{1, 1, 1, 127})
	checkKnown(t, 1, [][]int{{128}}, []byte{1, 1, 1, 128, 1})
	checkKnown(t, 1, [][]int{{200}}, []byte{1, 1, 1, 200, 1})
	checkKnown(t, 2, [][]int{{200, 0}, {0, 200}}, []byte{2, 2, 1, 200, 1, 0, 1, 0, 200, 1})
	checkKnown(t, 3, [][]int{{3, 1, 2}}, []byte{3, 1, 1, 3, 1, 2})
	checkKnown(t, 3, [][]int{{5, 5, 5}}, []byte{3, 1, 1, 5, 5, 5})
	checkKnown(t, 1, [][]int{{1}, {2}, {1}}, []byte{1, 3, 1, 1, 1, 2, 1, 1})
	checkKnown(t, 1, [][]int{{1}, {2}, {2}, {1}, {1}, {1}}, []byte{1, 6, 1, 1, 2, 2, 3, 1})
	checkKnown(t, 2, [][]int{{1, 2}, {2, 1}, {1, 2}}, []byte{2, 3, 1, 1, 2, 1, 2, 1, 1, 1, 2})
	checkKnown(t, 16, [][]int{make([]int, 16)}, slices.Concat([]byte{16, 1, 1}, times(16, 0)))
	checkKnown(t, 1, equalRows(1, 127), []byte{1, 127, 127, 7})
	checkKnown(t, 1, equalRows(1, 128), []byte{1, 128, 1, 128, 1, 7})
	checkKnown(t, 2, equalRows(2, 4096), []byte{2, 128, 32, 128, 32, 7, 8})
	checkKnown(t, 1, differentRows(1, 3), []byte{1, 3, 1, 0, 1, 1, 1, 2})
	text := written(1, 4096)
	for i := range 4096 {
		text = append(text, written(1, uint64(i%201))...)
	}
	checkKnown(t, 1, differentRows(1, 4096), text)
}

// TestCores holds P13.1 for each number of cores: all from 1 to 16 are right, with rows of as many numbers and without rows.
func TestCores(t *testing.T) {
	for m := -300; m <= 300; m++ {
		rows := [][]int{make([]int, max(m, 0)), make([]int, max(m, 0))}
		if m < 1 || m > 16 {
			checkWrong(t, m, nil)
			checkWrong(t, m, [][]int{})
			checkWrong(t, m, rows[:1])
			checkWrong(t, m, rows)
			checkNone(t, encoded(m, nil))
			checkNone(t, encoded(m, rows))
			continue
		}
		checkKnown(t, m, nil, []byte{byte(m), 0})
		checkKnown(t, m, [][]int{}, []byte{byte(m), 0})
		checkKnown(t, m, rows[:1], slices.Concat([]byte{byte(m), 1, 1}, times(m, 0)))
		checkKnown(t, m, rows, slices.Concat([]byte{byte(m), 2, 2}, times(m, 0)))
	}
}

// TestEdgeCores holds P13.1 for the edges of the number of cores, without rows and with rows of any lengths.
func TestEdgeCores(t *testing.T) {
	lists := [][][]int{nil, {}, {nil}, {{}}, {nil, {}}, {{0}}, {{1, 2}}, {make([]int, 15)}, {make([]int, 16)}, {make([]int, 17)}, {{0}, nil}, {{1, 2}, {1, 2}, {0, 3}}}
	for _, m := range edgeCores() {
		for _, rows := range lists {
			checkRows(t, m, rows)
			if m < 1 || m > 16 {
				checkWrong(t, m, rows)
			}
		}
	}
	if b, e := row.Encode(16); e != api.OK || !bytes.Equal(b, []byte{16, 0}) {
		t.Error(b, e)
	}
	for _, m := range []int{0, 17, -1, math.MaxInt, math.MinInt} {
		if e := row.Check(m); e != api.ErrArg {
			t.Errorf("Check(%d): %d", m, e)
		}
		if b, e := row.Encode(m); e != api.ErrArg || len(b) != 0 {
			t.Errorf("Encode(%d): %v, %d", m, b, e)
		}
	}
}

// TestCounts holds P13.1 for each number of rows: at most 4096, be they equal or different.
func TestCounts(t *testing.T) {
	for _, m := range []int{1, 2, 3, 15, 16} {
		for _, count := range []int{0, 1, 2, 3, 127, 128, 129, 4094, 4095, 4096, 4097, 4098, 8192} {
			for _, rows := range [][][]int{equalRows(m, count), differentRows(m, count)} {
				if count > 4096 {
					checkWrong(t, m, rows)
					checkNone(t, encoded(m, rows))
					continue
				}
				checkKnown(t, m, rows, encoded(m, rows))
				checkRows(t, m, rows)
			}
		}
	}
	checkWrong(t, 1, make([][]int, 4097))
	checkWrong(t, 1, equalRows(1, 1<<16))
	checkWrong(t, 1, equalRows(1, 1<<16+1))
	checkNone(t, written(1, 1<<16, 1<<16, 7))
}

// TestLengths holds P13.1 for the length of each row: it is the number of cores.
func TestLengths(t *testing.T) {
	for _, m := range []int{1, 2, 3, 8, 15, 16} {
		for _, count := range []int{1, 2, 3, 5, 4096} {
			for _, at := range places(count) {
				for length := range 35 {
					rows := differentRows(m, count)
					rows[at] = make([]int, length)
					if length != m {
						checkWrong(t, m, rows)
					} else {
						checkKnown(t, m, rows, encoded(m, rows))
					}
				}
				for _, wrong := range [][]int{nil, {}, make([]int, m-1), make([]int, m+1), make([]int, 2*m), make([]int, m+256)} {
					rows := equalRows(m, count)
					rows[at] = wrong
					checkWrong(t, m, rows)
				}
				// What lies behind a row is none of its numbers.
				rows := equalRows(m, count)
				rows[at] = make([]int, m+1)[:m]
				checkKnown(t, m, rows, encoded(m, rows))
				rows[at] = make([]int, m)[:m-1]
				checkWrong(t, m, rows)
			}
		}
	}
	// One row too long and another too short are as many numbers as two that are right.
	checkWrong(t, 2, [][]int{{1, 2, 3}, {4}})
	checkWrong(t, 2, [][]int{{1}, {2, 3, 4}})
	checkWrong(t, 2, [][]int{{1, 2, 3, 4}, nil})
	checkWrong(t, 1, [][]int{{1}, nil})
}

// TestNumbers holds P13.1 for each number of a row: it is from 0 to 200, wherever it is.
func TestNumbers(t *testing.T) {
	for n := -300; n <= 600; n++ {
		for _, rows := range [][][]int{{{n}}, {{5}, {n}}, {{n}, {5}}} {
			if n < 0 || n > 200 {
				checkWrong(t, 1, rows)
			} else {
				checkKnown(t, 1, rows, encoded(1, rows))
			}
		}
	}
	for _, m := range []int{1, 2, 3, 16} {
		for _, count := range []int{1, 2, 3, 5} {
			for _, at := range places(count) {
				for place := range m {
					for _, n := range edgeNumbers() {
						for _, rows := range [][][]int{equalRows(m, count), differentRows(m, count)} {
							rows[at][place] = n
							if n < 0 || n > 200 {
								checkWrong(t, m, rows)
							}
							checkRows(t, m, rows)
						}
					}
				}
			}
		}
	}
}

// TestNumbersOfMany holds P13.1 for a number of the first, a middle and the last one of 4096 rows.
func TestNumbersOfMany(t *testing.T) {
	for _, m := range []int{1, 2, 16} {
		for _, at := range places(4096) {
			for _, place := range slices.Compact([]int{0, m - 1}) {
				for _, n := range edgeNumbers() {
					rows := differentRows(m, 4096)
					rows[at][place] = n
					if n < 0 || n > 200 {
						checkWrong(t, m, rows)
						continue
					}
					checkKnown(t, m, rows, encoded(m, rows))
				}
			}
		}
	}
}

// TestTwoWrong holds P13.1 for rows of which one is right and others are not, and for a right number of cores among wrong rows.
func TestTwoWrong(t *testing.T) {
	kinds := [][]int{{0, 0}, {1, 2}, {200, 200}, {201, 0}, {0, 201}, {-1, 0}, {0, -1}, {0}, {1, 2, 3}, nil, {}}
	for _, m := range []int{0, 1, 2, 3, 17} {
		for length := range 4 {
			for _, rows := range lists(kinds, length) {
				checkRows(t, m, rows)
			}
		}
	}
}

// runs are rows of one number: as many equal ones as each length says, and each run unlike the next one.
func runs(lengths ...int) [][]int {
	var rows [][]int
	for i, length := range lengths {
		for range length {
			rows = append(rows, []int{i % 3})
		}
	}
	return rows
}

// TestRuns holds P13.1 for the runs: each is as long as there are equal rows, and they stand in the order of the rows.
func TestRuns(t *testing.T) {
	for _, lengths := range [][]int{{1}, {2}, {127}, {128}, {129}, {4095}, {4096}, {1, 1}, {1, 2}, {2, 1}, {1, 127, 1}, {128, 1, 128}, {1, 4095}, {4095, 1}, {1, 4094, 1}, {2048, 2048}, {5, 1, 1, 5}, {300, 200, 100, 50}} {
		text := []uint64{1, 0}
		for i, length := range lengths {
			text[1] += uint64(length)
			text = append(text, uint64(length), uint64(i%3))
		}
		checkKnown(t, 1, runs(lengths...), written(text...))
	}
	for _, m := range []int{1, 2, 16} {
		for _, length := range []int{1, 2, 127, 128, 4096} {
			rows := equalRows(m, length)
			text := append([]uint64{uint64(m), uint64(length), uint64(length)}, unsigned(rows[0])...)
			checkKnown(t, m, rows, written(text...))
		}
	}
}

// TestNotConsecutive holds P13.1 for equal rows with others between them: they are runs of their own.
func TestNotConsecutive(t *testing.T) {
	a, b, c := []int{1, 2, 3}, []int{3, 2, 1}, []int{0, 0, 0}
	checkKnown(t, 3, [][]int{a, b, a}, []byte{3, 3, 1, 1, 2, 3, 1, 3, 2, 1, 1, 1, 2, 3})
	checkKnown(t, 3, [][]int{a, a, b, a, a}, []byte{3, 5, 2, 1, 2, 3, 1, 3, 2, 1, 2, 1, 2, 3})
	checkKnown(t, 3, [][]int{a, b, c, a}, []byte{3, 4, 1, 1, 2, 3, 1, 3, 2, 1, 1, 0, 0, 0, 1, 1, 2, 3})
	var rows [][]int
	var text []uint64
	for range 2048 {
		rows = append(rows, a, b)
		text = append(text, 1, 1, 2, 3, 1, 3, 2, 1)
	}
	checkKnown(t, 3, rows, written(append([]uint64{3, 4096}, text...)...))
	for length := range 7 {
		for _, rows := range lists([][]int{a, b, c}, length) {
			checkKnown(t, 3, rows, encoded(3, rows))
		}
	}
}

// TestOneDiffers holds P13.1 for rows that differ in one number alone, the first and the last one too: they are no run.
func TestOneDiffers(t *testing.T) {
	for m := 1; m <= 16; m++ {
		same := equalRow(m)
		for place := range m {
			for _, n := range []int{0, 1, 127, 128, 199, 200} {
				other := slices.Clone(same)
				other[place] = n
				text := slices.Concat([]uint64{uint64(m), 5, 2}, unsigned(same), []uint64{1}, unsigned(other), []uint64{2}, unsigned(same))
				checkKnown(t, m, [][]int{same, same, other, same, same}, written(text...))
			}
		}
	}
}

// unsigned is the numbers of a row as those of an encoding.
func unsigned(r []int) []uint64 {
	var l []uint64
	for _, n := range r {
		l = append(l, uint64(n))
	}
	return l
}

// TestNoBytes holds P13.2 for no bytes, with rows behind them in the same memory too.
func TestNoBytes(t *testing.T) {
	for _, b := range [][]byte{nil, {}, []byte{1, 0}[:0], []byte{1, 1, 1, 0}[:0]} {
		if m, rows, e := row.Decode(b); m != 0 || len(rows) != 0 || e != api.ErrForm {
			t.Errorf("Decode of no bytes: %d, %v, %d", m, rows, e)
		}
		checkNone(t, b)
	}
}

// TestFirstNumber holds P13.2 for the number of cores: it is from 1 to 16.
func TestFirstNumber(t *testing.T) {
	for m := range 300 {
		empty := written(uint64(m), 0)
		one := append(written(uint64(m), 1, 1), times(m, 5)...)
		if m < 1 || m > 16 {
			checkNone(t, empty)
			checkNone(t, one)
		} else {
			checkKnown(t, m, nil, empty)
			checkKnown(t, m, [][]int{slices.Repeat([]int{5}, m)}, one)
		}
		for length := range 40 {
			checkDecode(t, append(written(uint64(m), 1, 1), times(length, 5)...))
		}
	}
	for _, b := range [][]byte{{0}, {0, 0}, {0, 0, 0}, {0, 1}, {0, 1, 1}, {0, 1, 1, 0}, {0, 2, 2}, {0, 2, 1, 1}, {0, 128, 32, 128, 32}} {
		checkNone(t, b)
	}
	for bits := 5; bits < 64; bits++ {
		for m := range 17 {
			great := uint64(1)<<bits + uint64(m)
			checkNone(t, written(great, 0))
			checkNone(t, append(written(great, 1, 1), times(m, 5)...))
		}
	}
	for _, great := range []uint64{17, 18, 127, 128, math.MaxInt64, math.MaxUint64} {
		checkNone(t, written(great, 0))
		checkNone(t, append(written(great, 1, 1), times(200, 5)...))
	}
}

// TestCountNumber holds P13.2 for the number of rows: it is from 0 to 4096, and just as many follow.
func TestCountNumber(t *testing.T) {
	for _, m := range []int{1, 2, 16} {
		for _, count := range []uint64{0, 1, 2, 127, 128, 4095, 4096} {
			for _, rest := range []uint64{0, 1, 2, 126, 127, 128, 4094, 4095, 4096, 4097} {
				b := append(written(uint64(m), count, rest), times(m, 5)...)
				if count == 0 || rest != count {
					checkNone(t, b)
					continue
				}
				checkKnown(t, m, slices.Repeat([][]int{slices.Repeat([]int{5}, m)}, int(count)), b)
			}
			if count > 0 {
				checkNone(t, written(uint64(m), count))
			}
		}
		for _, count := range []uint64{4097, 4098, 8192, 1 << 16, 1 << 20, 1<<32 + 1, math.MaxInt64, 1 << 63, 1<<63 + 1, math.MaxUint64} {
			checkNone(t, written(uint64(m), count))
			for _, run := range []uint64{0, 1, 4096, count - 1, count} {
				checkNone(t, append(written(uint64(m), count, run), times(m, 5)...))
			}
		}
	}
	for bits := 13; bits < 64; bits++ {
		for count := range uint64(5) {
			great := uint64(1)<<bits + count
			checkNone(t, written(1, great))
			checkNone(t, written(1, great, count, 5))
			checkNone(t, written(1, great, great, 5))
		}
	}
}

// TestRunNumber holds P13.2 for the length of a run: from 1 to just the rows that are left.
func TestRunNumber(t *testing.T) {
	for _, count := range []uint64{1, 2, 3, 4, 5, 20, 126, 127, 128, 129, 130} {
		for run := range count + 4 {
			b := written(1, count, run, 5)
			if run != count {
				checkNone(t, b)
			} else {
				checkKnown(t, 1, slices.Repeat([][]int{{5}}, int(count)), b)
			}
			for _, second := range []uint64{0, 1, count - run - 1, count - run, count - run + 1} {
				checkDecode(t, written(1, count, run, 5, second, 6))
			}
		}
	}
	for _, run := range []uint64{0, 2, 3, 127, 128, 4096, 4097, 1 << 20, 1<<32 + 1, 1<<32 + 2, math.MaxInt64, 1 << 63, 1<<63 + 1, math.MaxUint64} {
		checkNone(t, written(1, 1, run, 5))
		checkNone(t, written(2, 1, run, 5, 6))
		checkNone(t, written(1, 2, 1, 5, run, 6))
		checkNone(t, written(1, 2, run, 5, 1, 6, 1, 7))
	}
	for bits := 13; bits < 64; bits++ {
		great := uint64(1)<<bits + 1
		checkNone(t, written(1, 1, great, 5))
		checkNone(t, written(1, 2, 1, 5, great, 6))
		checkNone(t, written(1, 4096, great, 5))
		checkNone(t, written(1, 4096, great, 5, 4095, 6))
	}
	// A run of no row, ahead of, between and behind others.
	checkNone(t, written(1, 1, 0, 5, 1, 6))
	checkNone(t, written(1, 2, 1, 5, 0, 6, 1, 7))
	checkNone(t, written(1, 2, 1, 5, 1, 6, 0, 7))
	checkNone(t, written(1, 0, 0, 7))
	checkNone(t, written(1, 1, 0, 5))
	checkNone(t, written(1, 4096, 4095, 5, 0, 6, 1, 7))
	checkNone(t, written(1, 1, 0))
	checkNone(t, times(10000, 0))
	checkNone(t, append(written(1, 4096), make([]byte, 10000)...))
}

// TestNotMaximal holds P13.2 for equal consecutive rows in two runs: they are none.
func TestNotMaximal(t *testing.T) {
	for _, m := range []int{1, 2, 16} {
		r := unsigned(equalRow(m))
		other := make([]uint64, m)
		for _, k := range [][2]uint64{{1, 1}, {1, 2}, {2, 1}, {127, 1}, {1, 127}, {128, 128}, {4095, 1}, {1, 4095}, {2048, 2048}} {
			total := k[0] + k[1]
			checkNone(t, written(slices.Concat([]uint64{uint64(m), total, k[0]}, r, []uint64{k[1]}, r)...))
			checkNone(t, written(slices.Concat([]uint64{uint64(m), total, k[0]}, other, []uint64{k[1]}, other)...))
			checkDecode(t, written(slices.Concat([]uint64{uint64(m), total, k[0]}, r, []uint64{k[1]}, other)...))
			checkDecode(t, written(slices.Concat([]uint64{uint64(m), total, k[0]}, other, []uint64{k[1]}, r)...))
		}
		for _, k := range [][][]uint64{{r, r, other}, {other, r, r}, {r, other, other}, {r, r, r}, {r, other, r}, {other, r, other}, {other, other, other}} {
			b := written(slices.Concat([]uint64{uint64(m), 6, 1}, k[0], []uint64{2}, k[1], []uint64{3}, k[2])...)
			if slices.Equal(k[0], k[1]) || slices.Equal(k[1], k[2]) {
				checkNone(t, b)
			}
			checkDecode(t, b)
		}
	}
	// A first row of idle cores is no row behind another one.
	checkKnown(t, 2, [][]int{{0, 0}, {0, 1}}, []byte{2, 2, 1, 0, 0, 1, 0, 1})
}

// TestFewerRows holds P13.2 for fewer rows than are told, and for more.
func TestFewerRows(t *testing.T) {
	for _, m := range []int{1, 2, 16} {
		for _, count := range []int{0, 1, 2, 3, 127, 128, 4094, 4095, 4096} {
			numbers := numbersOf(m, differentRows(m, count))
			for told := max(0, count-3); told <= count+3; told++ {
				numbers[1] = uint64(told)
				if told != count {
					checkNone(t, written(numbers...))
				} else {
					checkKnown(t, m, differentRows(m, count), written(numbers...))
				}
			}
		}
	}
}

// TestRowNumber holds P13.2 for each number of a row: it is from 0 to 200.
func TestRowNumber(t *testing.T) {
	for n := range uint64(600) {
		for m := uint64(1); m <= 16; m++ {
			for place := range m {
				numbers := slices.Concat([]uint64{m, 1, 1}, slices.Repeat([]uint64{5}, int(m)))
				numbers[3+place] = n
				if n > 200 {
					checkNone(t, written(numbers...))
				} else {
					checkDecode(t, written(numbers...))
				}
			}
		}
		if n > 200 {
			checkNone(t, written(1, 3, 1, n, 1, 5, 1, 6))
			checkNone(t, written(1, 3, 1, 5, 1, n, 1, 6))
			checkNone(t, written(1, 3, 1, 5, 1, 6, 1, n))
			checkNone(t, written(1, 3, 2, 5, 1, n))
			checkNone(t, written(1, 3, 3, n))
		}
	}
	for bits := 8; bits < 64; bits++ {
		for _, less := range []uint64{0, 1, 5, 199, 200} {
			great := uint64(1)<<bits + less
			checkNone(t, written(1, 1, 1, great))
			checkNone(t, written(2, 2, 1, 5, great, 1, 6, 7))
			checkNone(t, written(2, 2, 1, 5, 6, 1, great, 7))
		}
	}
	for _, great := range []uint64{math.MaxInt64, math.MaxUint64, math.MaxUint64 - 200} {
		checkNone(t, written(1, 1, 1, great))
		checkNone(t, written(1, 2, 1, 5, 1, great))
	}
}

// pair is a number of cores, and rows for it.
type pair struct {
	m    int
	rows [][]int
}

// fullPairs are valid rows with many kinds of numbers in them.
func fullPairs() []pair {
	return []pair{
		{1, nil},
		{16, nil},
		{1, [][]int{{0}}},
		{1, [][]int{{200}}},
		{2, [][]int{{1, 0}, {1, 0}, {0, 3}}},
		{2, [][]int{{200, 128}, {127, 0}, {127, 0}, {200, 128}}},
		{3, append(equalRows(3, 300), []int{0, 130, 0})},
		{1, runs(1, 128, 2, 200)},
		{16, [][]int{equalRow(16), slices.Repeat([]int{200}, 16), make([]int, 16)}},
		{2, differentRows(2, 30)},
	}
}

// TestCut holds P13.2 for rows that are cut short ahead of each number, and within each: none of these are rows.
func TestCut(t *testing.T) {
	for _, p := range fullPairs() {
		b := encoded(p.m, p.rows)
		for length := range b {
			checkNone(t, b[:length])
		}
		checkKnown(t, p.m, p.rows, b)
	}
	b := encoded(16, differentRows(16, 4096))
	for _, length := range []int{0, 1, 2, 3, 4, len(b) / 2, len(b) - 18, len(b) - 17, len(b) - 2, len(b) - 1} {
		checkNone(t, b[:length])
	}
}

// TestBehind holds P13.2 for bytes behind the last number.
func TestBehind(t *testing.T) {
	for _, p := range fullPairs() {
		b := encoded(p.m, p.rows)
		for x := range 256 {
			checkNone(t, append(slices.Clip(b), byte(x)))
			checkNone(t, append(slices.Clip(b), byte(x), byte(x)))
		}
		// One more run, which is not told.
		checkNone(t, slices.Concat(b, []byte{1}, times(p.m, 99)))
		checkNone(t, slices.Concat(b, []byte{0}, times(p.m, 0)))
		checkNone(t, slices.Concat(b, b))
		checkNone(t, slices.Concat(b, make([]byte, 1<<16)))
	}
}

// wrongTexts are bytes that are no encoding of a number.
func wrongTexts() [][]byte {
	texts := [][]byte{
		// Not as short as possible.
		{128, 0}, {129, 0}, {133, 0}, {255, 0}, {128, 128, 0}, {172, 130, 0}, {129, 128, 128, 0}, times(8, 128, 0), times(9, 128, 0), times(9, 255, 0),
		// Not below 2^64, or of more than ten bytes.
		times(9, 128, 2), times(9, 255, 2), times(9, 255, 127), times(10, 128, 0), times(10, 128, 1), times(30, 129, 1),
	}
	// Without an end, alone and ahead of others.
	for n := 1; n < 14; n++ {
		texts = append(texts, times(n, 128), times(n, 255))
	}
	return texts
}

// TestWrongTexts holds P13.2 for a number, each one of rows, that is not encoded as short as possible, is too long or does not end.
func TestWrongTexts(t *testing.T) {
	for _, p := range fullPairs() {
		numbers := numbersOf(p.m, p.rows)
		for at, n := range numbers {
			ahead, behind := written(numbers[:at]...), written(numbers[at+1:]...)
			long := written(n)
			long[len(long)-1] += 128
			for _, text := range append(wrongTexts(), append(slices.Clip(long), 0), append(slices.Clip(long), 128, 0), long) {
				checkNone(t, slices.Concat(ahead, text))
				// What does not end may, with what is behind it, be another number.
				checkDecode(t, slices.Concat(ahead, text, behind))
			}
			checkNone(t, slices.Concat(ahead, long, []byte{0}, behind))
			checkNone(t, slices.Concat(ahead, long, []byte{128, 0}, behind))
		}
	}
}

// lists are all lists of length elements, each one of these.
func lists[T any](elements []T, length int) [][]T {
	all := [][]T{nil}
	for range length {
		var more [][]T
		for _, l := range all {
			for _, x := range elements {
				more = append(more, append(slices.Clip(l), x))
			}
		}
		all = more
	}
	return all
}

// TestFewBytes holds P13.2 for all texts of up to two bytes, and for all of a few of the bytes at the edges.
func TestFewBytes(t *testing.T) {
	for x := range 256 {
		checkDecode(t, []byte{byte(x)})
		for y := range 256 {
			checkDecode(t, []byte{byte(x), byte(y)})
			checkDecode(t, []byte{byte(x), byte(y), 1, 0})
			checkDecode(t, []byte{1, 1, byte(x), byte(y)})
			checkDecode(t, []byte{1, 1, 1, byte(x), byte(y)})
			checkDecode(t, []byte{1, 2, byte(x), 0, byte(y), 1})
			checkDecode(t, []byte{1, 2, 1, byte(x), 1, byte(y)})
			checkDecode(t, []byte{1, 2, 2, byte(x), byte(y)})
			checkDecode(t, []byte{2, 1, 1, byte(x), byte(y)})
		}
	}
	for length := range 8 {
		for _, b := range lists([]byte{0, 1, 2, 128}, length) {
			checkDecode(t, b)
		}
	}
	for length := range 6 {
		for _, b := range lists([]byte{0, 1, 2, 3, 16, 17, 200, 201, 255}, length) {
			checkDecode(t, b)
		}
	}
}

// TestEachByte holds P13.2 and P13.4 for each value of each byte of rows.
func TestEachByte(t *testing.T) {
	for _, p := range fullPairs() {
		for at := range encoded(p.m, p.rows) {
			for x := range 256 {
				b := encoded(p.m, p.rows)
				old := b[at]
				b[at] = byte(x)
				checkDecode(t, b)
				if m, rows, e := row.Decode(b); byte(x) != old && e == api.OK && m == p.m && equal(rows, p.rows) {
					t.Fatalf("Decode(%v): %d, %v, whose bytes are others", b, m, rows)
				}
			}
		}
	}
}

// anyRows are rows of any lengths and any numbers.
func anyRows() [][][]int {
	return [][][]int{
		nil,
		{},
		{nil},
		{{}, nil, {}},
		{{0}},
		{{5}},
		{{0, 0, 0}, {0}, nil, {0, 0}},
		{{5}, {5, 6}, {6, 5}, {}, {7}},
		{{5, 5, 5}},
		{{1, 2, 3}, {4, 5}},
		{{-1, 0, -1}, {1, -1}},
		{{201, 1000, 201}, {math.MaxInt, 0, math.MaxInt}},
		{{math.MinInt, math.MaxInt}, {math.MinInt}, {math.MinInt, math.MinInt}},
		{{1 << 32, 0, 1<<32 + 1, 1, 256, 257}},
		{make([]int, 5000), slices.Repeat([]int{7}, 5000)},
		equalRows(3, 5000),
		differentRows(2, 5000),
	}
}

// TestCount holds P13.3 for Count: each number of each row that equals the task counts.
func TestCount(t *testing.T) {
	type known struct {
		rows [][]int
		task int
		want int
	}
	for _, k := range []known{
		{nil, 0, 0}, {nil, 1, 0}, {[][]int{}, 0, 0}, {[][]int{nil, {}}, 0, 0}, {[][]int{nil, {}}, -1, 0},
		{[][]int{{1, 2}, {3, 4}}, 5, 0}, {[][]int{{1, 2}, {3, 4}}, 0, 0},
		{[][]int{{1, 2}, {3, 4}}, 1, 1}, {[][]int{{1, 2}, {3, 4}}, 2, 1}, {[][]int{{1, 2}, {3, 4}}, 3, 1}, {[][]int{{1, 2}, {3, 4}}, 4, 1},
		{[][]int{{5, 5, 0, 5}}, 5, 3}, {[][]int{{5, 0}, {0, 5}, {5, 5}}, 5, 4}, {[][]int{{5, 0}, {0, 5}, {5, 5}}, 0, 2},
		{[][]int{{5}, {5}, {5}}, 5, 3}, {[][]int{{5}, {6}, {5}}, 5, 2},
		{[][]int{{0, 0}, nil, {0}}, 0, 3},
		{[][]int{{-1, 1}, {-1}}, -1, 2}, {[][]int{{-1, 1}, {-1}}, 1, 1}, {[][]int{{1}}, -1, 0},
		{[][]int{{math.MaxInt, 201}, {math.MaxInt, 7, 8}}, math.MaxInt, 2}, {[][]int{{200, 0}}, math.MaxInt, 0},
		{[][]int{{math.MinInt}}, math.MinInt, 1}, {[][]int{{0}}, math.MinInt, 0},
		{[][]int{{201}, {1, 2, 3}, nil, {201, 201}}, 201, 3},
		{[][]int{{1 << 32, 0, 256}}, 0, 1}, {[][]int{{1<<32 + 1, 257, 1}}, 1, 1}, {[][]int{{0}}, 1 << 32, 0}, {[][]int{{0}}, 256, 0},
		{equalRows(2, 4097), 8, 4097}, {equalRows(2, 4097), 9, 0},
		{[][]int{make([]int, 100000)}, 0, 100000},
	} {
		if got := row.Count(k.rows, k.task); got != k.want {
			t.Errorf("Count(%v, %d): %d; want %d", k.rows, k.task, got, k.want)
		}
	}
	for _, rows := range anyRows() {
		for _, task := range slices.Concat(edgeNumbers(), []int{3, 5, 6, 7, 8, 9}) {
			if got, want := row.Count(rows, task), counted(rows, task); got != want {
				t.Errorf("Count(%v, %d): %d; want %d", rows, task, got, want)
			}
		}
	}
}

func checkAlone(t *testing.T, want bool, rows ...[]int) {
	t.Helper()
	if got := row.Alone(rows...); got != want {
		t.Errorf("Alone(%v): %t; want %t", rows, got, want)
	}
}

// TestAlone holds P13.3 for Alone: a number other than 0 is in each row once at most.
func TestAlone(t *testing.T) {
	if !row.Alone() {
		t.Error("Alone of no rows is false")
	}
	checkAlone(t, true)
	checkAlone(t, true, [][]int{}...)
	checkAlone(t, true, nil, []int{}, nil)
	checkAlone(t, true, []int{0})
	checkAlone(t, true, []int{0, 0})
	checkAlone(t, true, []int{0, 0, 0, 0}, []int{0, 5, 0, 6, 0}, make([]int, 5000))
	checkAlone(t, true, []int{5})
	checkAlone(t, true, []int{3, 1, 2, 0, 200, 201, -1, math.MaxInt, math.MinInt})
	checkAlone(t, false, []int{5, 5})
	checkAlone(t, false, []int{5, 5, 0})
	checkAlone(t, false, []int{0, 5, 5})
	checkAlone(t, false, []int{0, 5, 5, 0})
	checkAlone(t, false, []int{5, 0, 5})
	checkAlone(t, false, []int{5, 1, 9, 2, 5})
	checkAlone(t, false, []int{1, 5, 9, 5, 2})
	checkAlone(t, false, []int{5, 5, 5})
	checkAlone(t, true, []int{5}, []int{5})
	checkAlone(t, true, []int{5, 0}, []int{5, 0}, []int{0, 5})
	checkAlone(t, true, []int{1, 2, 3}, []int{3, 1, 2}, []int{2, 3, 1})
	checkAlone(t, true, []int{1, 2}, nil, []int{2, 1})
	checkAlone(t, false, []int{-1, -1})
	checkAlone(t, false, []int{-1, 0, -1})
	checkAlone(t, true, []int{-1, 1})
	checkAlone(t, false, []int{-7, 3, 0, -7})
	checkAlone(t, false, []int{math.MaxInt, 0, math.MaxInt})
	checkAlone(t, false, []int{math.MinInt, 0, math.MinInt})
	checkAlone(t, true, []int{math.MaxInt, math.MinInt, 0, 0})
	checkAlone(t, false, []int{201, 1, 201})
	checkAlone(t, false, []int{1 << 32, 1 << 32})
	checkAlone(t, true, []int{1, 257, 1<<32 + 1, 65, 129, 1<<16 + 1})
	checkAlone(t, true, []int{0, 256, 1 << 32, 64, 128})
	// The row with one number twice is the first, a middle or the last one.
	checkAlone(t, false, []int{7, 7}, []int{1, 2}, []int{3, 4})
	checkAlone(t, false, []int{1, 2}, []int{7, 7}, []int{3, 4})
	checkAlone(t, false, []int{1, 2}, []int{3, 4}, []int{7, 7})
	for _, rows := range anyRows()[:14] {
		checkAlone(t, alone(rows), rows...)
	}
}

// TestAlonePlaces holds P13.3 for Alone of rows with one number in any two places, and with many rows about it.
func TestAlonePlaces(t *testing.T) {
	for _, length := range []int{2, 3, 16, 40} {
		for i := range length {
			for j := range length {
				for _, n := range []int{0, 1, 200, 201, -1, math.MaxInt, math.MinInt} {
					r := make([]int, length)
					for k := range r {
						r[k] = 300 + (k*7)%length
					}
					if length%7 == 0 {
						t.Fatal(length)
					}
					r[i], r[j] = n, n
					want := i == j || n == 0
					checkAlone(t, want, r)
					checkAlone(t, want, []int{1, 2}, r, []int{2, 1})
				}
			}
		}
	}
	many := differentRows(2, 5000)
	for _, r := range many {
		r[0] += 300
	}
	checkAlone(t, true, many...)
	for _, at := range places(5000) {
		spoilt := copied(many)
		spoilt[at] = []int{9, 9}
		checkAlone(t, false, spoilt...)
	}
	long := make([]int, 100000)
	for i := range long {
		long[i] = i + 1
	}
	checkAlone(t, true, long)
	long[0] = 100000
	checkAlone(t, false, long)
	long[0] = 0
	checkAlone(t, true, long)
}

// TestAllRows holds P13.3 for all rows of up to four numbers of a few, alone and two by two.
func TestAllRows(t *testing.T) {
	var all [][]int
	for length := range 5 {
		all = append(all, lists([]int{0, 1, 2, -1}, length)...)
	}
	for _, a := range all {
		checkAlone(t, alone([][]int{a}), a)
		for _, b := range all {
			rows := [][]int{a, b}
			if got, want := row.Alone(rows...), alone(rows); got != want {
				t.Fatalf("Alone(%v): %t; want %t", rows, got, want)
			}
			for _, task := range []int{0, 1, 2, -1, 3} {
				if got, want := row.Count(rows, task), counted(rows, task); got != want {
					t.Fatalf("Count(%v, %d): %d; want %d", rows, task, got, want)
				}
			}
		}
	}
}

// somePair is any rows for a number of cores: most often valid ones, or nearly so, with runs.
func somePair(r *rand.Rand) pair {
	m := 1 + r.Intn(16)
	if r.Intn(2) == 0 {
		m = 1 + r.Intn(3)
	}
	most := []int{1, 3, 127, 128, 201}[r.Intn(5)]
	p := pair{m: m}
	for range r.Intn(12) {
		l := make([]int, m)
		for i := range l {
			l[i] = r.Intn(most)
		}
		for range 1 + r.Intn(1+r.Intn(140)) {
			p.rows = append(p.rows, slices.Clone(l))
		}
	}
	if r.Intn(4) > 0 || len(p.rows) == 0 {
		return p
	}
	at := r.Intn(len(p.rows))
	switch r.Intn(4) {
	case 0:
		p.m = edgeCores()[r.Intn(len(edgeCores()))]
	case 1:
		p.rows[at][r.Intn(m)] = edgeNumbers()[r.Intn(len(edgeNumbers()))]
	case 2:
		p.rows[at] = p.rows[at][:r.Intn(m)]
	case 3:
		p.rows[at] = append(p.rows[at], 0)
	}
	return p
}

// TestPairs holds P13.1 and P13.4 for any rows: Decode of what Encode answers is the number of cores and the rows.
func TestPairs(t *testing.T) {
	r := rand.New(rand.NewSource(131))
	encodings := 0
	for range 5000 {
		p := somePair(r)
		checkRows(t, p.m, p.rows)
		b, e := row.Encode(p.m, p.rows...)
		if e != api.OK {
			continue
		}
		encodings++
		if m, rows, e := row.Decode(b); m != p.m || !equal(rows, p.rows) || e != api.OK {
			t.Fatalf("Decode of what %v is: %d, %v, %d", p, m, rows, e)
		}
		for task := range 5 {
			if got, want := row.Count(p.rows, task), counted(p.rows, task); got != want {
				t.Fatalf("Count(%v, %d): %d; want %d", p.rows, task, got, want)
			}
		}
		checkAlone(t, alone(p.rows), p.rows...)
	}
	if encodings < 2000 || encodings > 4900 {
		t.Error(encodings)
	}
}

// someText is the bytes of rows, most often spoilt, or any bytes.
func someText(r *rand.Rand) []byte {
	p := somePair(r)
	b := encoded(p.m, p.rows)
	switch r.Intn(6) {
	case 0:
		b = b[:r.Intn(len(b)+1)]
	case 1:
		b = append(b, byte(r.Intn(256)))
	case 2:
		b[r.Intn(len(b))] = byte(r.Intn(256))
	case 3:
		at, text := r.Intn(len(b)+1), wrongTexts()[r.Intn(len(wrongTexts()))]
		b = slices.Concat(b[:at], text, b[at:])
	case 4:
		numbers := numbersOf(p.m, p.rows)
		numbers[r.Intn(len(numbers))] = uint64(r.Intn(20))
		b = written(numbers...)
	}
	return b
}

// TestTexts holds P13.2 and P13.4 for any bytes: Encode of what Decode answers is the bytes.
func TestTexts(t *testing.T) {
	r := rand.New(rand.NewSource(132))
	found := 0
	for range 10000 {
		b := someText(r)
		checkDecode(t, b)
		m, rows, e := row.Decode(b)
		if e != api.OK {
			continue
		}
		found++
		if again, e := row.Encode(m, rows...); e != api.OK || !bytes.Equal(again, b) {
			t.Fatalf("Encode of what %v is: %v, %d", b, again, e)
		}
		if row.Check(m, rows...) != api.OK {
			t.Fatalf("Decode(%v): %d, %v is not valid", b, m, rows)
		}
	}
	if found < 1000 || found > 9000 {
		t.Error(found)
	}
	for range 20000 {
		b := make([]byte, r.Intn(12))
		for i := range b {
			b[i] = byte(r.Intn(1 << r.Intn(9)))
		}
		checkDecode(t, b)
	}
	checkNone(t, times(1<<20, 0))
	checkNone(t, times(1<<20, 1))
	checkNone(t, times(1<<20, 128))
}

// TestDifferent holds P13.4: rows that differ, and the same ones for another number of cores, have encodings that differ.
func TestDifferent(t *testing.T) {
	found := map[string]string{}
	hold := func(m int, rows [][]int) {
		b, e := row.Encode(m, rows...)
		if e != api.OK {
			t.Fatalf("Encode(%d, %v): %d", m, rows, e)
		}
		text := fmt.Sprint(m, len(rows), rows)
		if other, ok := found[string(b)]; ok && other != text {
			t.Fatalf("%v and %v are %v", other, text, b)
		}
		found[string(b)] = text
	}
	for m := 1; m <= 16; m++ {
		hold(m, nil)
		for count := range 130 {
			hold(m, equalRows(m, count))
			hold(m, differentRows(m, count))
			hold(m, slices.Repeat([][]int{make([]int, m)}, count))
		}
	}
	for length := range 7 {
		for _, l := range lists([]int{0, 1, 2, 128}, length) {
			for m := 1; m <= length; m++ {
				if length%m == 0 {
					hold(m, slices.Collect(slices.Chunk(l, m)))
				}
			}
		}
	}
	r := rand.New(rand.NewSource(133))
	for range 3000 {
		if p := somePair(r); valid(p.m, p.rows) {
			hold(p.m, p.rows)
		}
	}
	texts := map[string]bool{}
	for _, text := range found {
		if texts[text] {
			t.Fatalf("%v has two encodings", text)
		}
		texts[text] = true
	}
	if len(found) < 10000 {
		t.Error(len(found))
	}
}

// spared is rows behind each of which, and behind all of which, other numbers and rows lie.
func spared(rows [][]int) [][]int {
	all := make([][]int, len(rows), len(rows)+3)
	for i, r := range rows {
		all[i] = slices.Concat(r, []int{81, -82, 83})[:len(r)]
	}
	copy(all[len(rows):cap(all)], [][]int{{1, 2}, nil, {3}})
	return all
}

// snapshot is rows and what lies behind each, and behind all of them.
func snapshot(rows [][]int) [][]int {
	var all [][]int
	for _, r := range whole(rows) {
		all = append(all, slices.Clone(whole(r)))
	}
	return all
}

// TestRowsMemory holds the rule on memory for Check, Encode, Count and Alone: rows, and what lies behind them, stay.
func TestRowsMemory(t *testing.T) {
	var pairs []pair
	pairs = append(pairs, fullPairs()...)
	for _, rows := range anyRows() {
		pairs = append(pairs, pair{2, rows})
	}
	pairs = append(pairs, pair{3, [][]int{{3, 1, 2}, {9, 9, 9}, {5, 0, 5}}}, pair{0, nil}, pair{17, [][]int{{3, 1}}}, pair{2, [][]int{{3, 1}, {2}}}, pair{1, [][]int{{9}, {201}}})
	for _, p := range pairs {
		given := spared(p.rows)
		old := snapshot(given)
		lengths := fmt.Sprint(given)
		e := row.Check(p.m, given...)
		b, encodeE := row.Encode(p.m, given...)
		count := row.Count(given, 9)
		single := row.Alone(given...)
		if !equal(snapshot(given), old) || fmt.Sprint(given) != lengths {
			t.Fatalf("%v: of %v, %v is left", p, old, snapshot(given))
		}
		if e != checked(p.m, p.rows) || encodeE != e || count != counted(p.rows, 9) {
			t.Fatalf("%v: %d, %d, %d, %t with more behind it", p, e, encodeE, count, single)
		}
		text := encoded(p.m, p.rows)
		for _, r := range given {
			fill(r, 99)
		}
		fill(given, nil)
		if e == api.OK && !bytes.Equal(b, text) {
			t.Fatalf("Encode(%v): %v once the rows change", p, b)
		}
	}
}

// TestEncodeMemory holds the rule on memory for Encode: the bytes of each call are new, with what lies behind them.
func TestEncodeMemory(t *testing.T) {
	for _, p := range fullPairs() {
		first, _ := row.Encode(p.m, p.rows...)
		second, _ := row.Encode(p.m, p.rows...)
		_ = append(first, 66, 67, 68, 69)
		fill(first, 99)
		if !bytes.Equal(second, encoded(p.m, p.rows)) {
			t.Errorf("Encode(%v): %v once another result changes", p, second)
		}
		fill(second, 98)
		if slices.ContainsFunc(whole(first), func(x byte) bool { return x != 99 }) {
			t.Errorf("Encode(%v): two results share memory", p)
		}
		if third, e := row.Encode(p.m, p.rows...); e != api.OK || !bytes.Equal(third, encoded(p.m, p.rows)) {
			t.Errorf("Encode(%v): %v, %d once others changed", p, third, e)
		}
	}
}

// TestDecodeMemory holds the rule on memory for Decode: bytes, and what lies behind them, stay, whether they are rows or not.
func TestDecodeMemory(t *testing.T) {
	texts := [][]byte{{}, {0}, {0, 0}, {17, 0}, {2, 2, 1, 1, 0, 1, 1, 0}, {2, 1, 1, 201, 1, 0}, {1, 1, 0, 5}, {1, 1, 2, 5}, {2, 1, 1, 128}, {1, 1, 1, 5, 0}}
	for _, p := range fullPairs() {
		texts = append(texts, encoded(p.m, p.rows))
	}
	for _, text := range texts {
		b := withSpare(text)
		old := slices.Clone(whole(b))
		m, rows, e := row.Decode(b)
		if !bytes.Equal(whole(b), old) {
			t.Errorf("Decode: of %v, %v is left", old, whole(b))
		}
		wantM, want, ok := decoded(text)
		fill(b, 99)
		if m != wantM || !equal(rows, want) || (e == api.OK) != ok {
			t.Errorf("Decode(%v): %d, %v, %d once the bytes change", text, m, rows, e)
		}
	}
}

// TestEachRowMemory holds the rule on memory for Decode: no two rows, of one call or of several, share memory, and none lies behind another.
func TestEachRowMemory(t *testing.T) {
	for _, p := range fullPairs() {
		b := encoded(p.m, p.rows)
		_, first, _ := row.Decode(b)
		_, second, _ := row.Decode(b)
		for i, r := range first {
			_ = append(r, 66, 67, 68)
			fill(r, 1000+i)
		}
		for i, r := range first {
			if slices.ContainsFunc(whole(r), func(n int) bool { return n != 1000+i }) {
				t.Fatalf("Decode(%v): the row %d shares memory with another", b, i)
			}
		}
		if !equal(second, p.rows) {
			t.Fatalf("Decode(%v): %v once another result changes", b, second)
		}
		_ = append(second, []int{66})
		fill(second, nil)
		for i, r := range first {
			if len(r) != p.m || r[0] != 1000+i {
				t.Fatalf("Decode(%v): two results share memory", b)
			}
		}
		if !bytes.Equal(b, encoded(p.m, p.rows)) {
			t.Fatalf("Decode(%v): %v once a result changes", encoded(p.m, p.rows), b)
		}
		if m, third, e := row.Decode(b); m != p.m || !equal(third, p.rows) || e != api.OK {
			t.Fatalf("Decode(%v): %d, %v, %d once others changed", b, m, third, e)
		}
	}
}
