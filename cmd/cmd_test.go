package cmd_test

import (
	"bytes"
	"encoding/binary"
	"errors"
	"fmt"
	"math"
	"math/rand"
	"slices"
	"strings"
	"testing"

	"dogwatch/api"
	"dogwatch/cmd"
	"dogwatch/fault"
)

const (
	most  = 2147483647
	opMax = 17
)

// members are all that a command has beside its Op.
func members() []string {
	return []string{"ID", "Group", "Share", "Weight", "Cap", "Core", "N"}
}

func member(c *api.Cmd, name string) *int {
	switch name {
	case "ID":
		return &c.ID
	case "Group":
		return &c.Group
	case "Share":
		return &c.Share
	case "Weight":
		return &c.Weight
	case "Cap":
		return &c.Cap
	case "Core":
		return &c.Core
	case "N":
		return &c.N
	}
	panic("no member " + name)
}

// fieldsOf is what the terms say of a command's fields, word by word; ok tells whether there is such an Op.
func fieldsOf(op int) (fields []string, ok bool) {
	words := map[int]string{
		api.Arrive:   "Share ID",
		api.Depart:   "ID",
		api.Reweight: "Share ID",
		api.Block:    "ID",
		api.Wake:     "ID",
		api.Found:    "Share Group",
		api.Fund:     "Share Group",
		api.Disband:  "Group",
		api.Enter:    "Cap Weight Group ID",
		api.Weigh:    "Weight ID",
		api.Limit:    "Cap ID",
		api.Move:     "Group ID",
		api.Plug:     "Core",
		api.Unplug:   "Core",
		api.Repack:   "",
		api.Ticks:    "N",
		api.Query:    "ID",
	}
	word, ok := words[op]
	return strings.Fields(word), ok
}

// othersOf are the members that are no field.
func othersOf(op int) []string {
	fields, _ := fieldsOf(op)
	return slices.DeleteFunc(members(), func(name string) bool { return slices.Contains(fields, name) })
}

// command has these numbers as its fields, in their order.
func command(op int, numbers ...int) api.Cmd {
	c := api.Cmd{Op: op}
	fields, _ := fieldsOf(op)
	if len(fields) != len(numbers) {
		panic(fmt.Sprint("fields of ", op, ": ", numbers))
	}
	for i, name := range fields {
		*member(&c, name) = numbers[i]
	}
	return c
}

func link(code api.Errno, part string, at int) fault.Link {
	return fault.Link{Code: code, Part: part, At: at}
}

// checked is the links that the words of P11.1 give a command's error: none of a valid one.
func checked(c api.Cmd) []fault.Link {
	fields, ok := fieldsOf(c.Op)
	if !ok {
		return []fault.Link{link(api.ErrArg, "cmd", c.Op)}
	}
	for i, name := range fields {
		if n := *member(&c, name); n < 0 || n > most {
			return []fault.Link{link(api.ErrOver, "cmd", c.Op), link(api.ErrOver, "field", i+1)}
		}
	}
	for _, name := range othersOf(c.Op) {
		if *member(&c, name) != 0 {
			return []fault.Link{link(api.ErrArg, "cmd", c.Op)}
		}
	}
	return nil
}

// encoded is the bytes that the terms give a valid command.
func encoded(c api.Cmd) []byte {
	b := []byte{byte(c.Op)}
	fields, _ := fieldsOf(c.Op)
	for _, name := range fields {
		b = binary.AppendUvarint(b, uint64(*member(&c, name)))
	}
	return b
}

// leading is the number that bytes begin with, and how many of them it has; or what is wrong with it.
func leading(b []byte) (n, length int, e api.Errno) {
	long, length := binary.Uvarint(b)
	if length <= 0 || !bytes.Equal(binary.AppendUvarint(nil, long), b[:length]) {
		return 0, 0, api.ErrForm
	}
	if long > most {
		return 0, 0, api.ErrOver
	}
	return int(long), length, api.OK
}

// decoded is the command that the words of P11.2 give bytes, or the links of the error.
func decoded(b []byte) (api.Cmd, []fault.Link) {
	if len(b) == 0 {
		return api.Cmd{}, []fault.Link{link(api.ErrForm, "cmd", 0)}
	}
	c := api.Cmd{Op: int(b[0])}
	wrong := []fault.Link{link(api.ErrForm, "cmd", c.Op)}
	fields, ok := fieldsOf(c.Op)
	if !ok {
		return api.Cmd{}, wrong
	}
	rest := b[1:]
	for i, name := range fields {
		n, length, e := leading(rest)
		if e != api.OK {
			return api.Cmd{}, append(wrong, link(e, "field", i+1))
		}
		*member(&c, name) = n
		rest = rest[length:]
	}
	if len(rest) > 0 {
		return api.Cmd{}, append(wrong, link(api.ErrLong, "field", len(fields)))
	}
	return c, nil
}

func TestModels(t *testing.T) {
	c := api.Cmd{Op: 9, ID: 7, Group: 2, Weight: 300, Cap: 4}
	b := []byte{9, 4, 172, 2, 2, 7}
	if got := command(9, 4, 300, 2, 7); got != c {
		t.Error(got)
	}
	if got := encoded(c); !bytes.Equal(got, b) {
		t.Error(got)
	}
	if got, links := decoded(b); got != c || links != nil {
		t.Error(got, links)
	}
	if links := checked(c); links != nil {
		t.Error(links)
	}
	for n, want := range map[string]api.Errno{
		"\x80\x00":                 api.ErrForm,
		"\x80":                     api.ErrForm,
		"":                         api.ErrForm,
		"\xff\xff\xff\xff\x07":     api.OK,
		"\xff\xff\xff\xff\x07\x01": api.OK,
		"\x80\x80\x80\x80\x08":     api.ErrOver,
	} {
		if _, _, e := leading([]byte(n)); e != want {
			t.Errorf("%q: %d", n, e)
		}
	}
	if got := othersOf(api.Enter); !slices.Equal(got, []string{"Share", "Core", "N"}) {
		t.Error(got)
	}
}

func linkText(l fault.Link) string {
	return fmt.Sprintf("%s %d #%d", l.Part, l.At, l.Code)
}

// checkError holds that an error has just these links, in each way in which it may be asked; none: that it is nil.
func checkError(t *testing.T, what any, err error, want []fault.Link) {
	t.Helper()
	if len(want) == 0 {
		if err != nil {
			t.Fatalf("%v: %#v; want nil", what, err)
		}
		return
	}
	outer, ok := err.(*fault.Fault)
	if !ok || outer == nil {
		t.Fatalf("%v: %#v; want %v", what, err, want)
	}
	if links := fault.Links(err); !slices.Equal(links, want) {
		t.Fatalf("%v: %v; want %v", what, links, want)
	}
	var texts []string
	codes := map[api.Errno]bool{}
	for _, l := range want {
		texts = append(texts, linkText(l))
		codes[l.Code] = true
	}
	if text := strings.Join(texts, ": "); fault.Text(err) != text || err.Error() != texts[0] {
		t.Fatalf("%v: %q, %q; want %q", what, fault.Text(err), err.Error(), text)
	}
	if code := fault.Code(err); code != want[0].Code {
		t.Fatalf("%v: the code %d; want %d", what, code, want[0].Code)
	}
	for code := range api.ErrPlan + 1 {
		asked := &fault.Fault{Link: link(code, "", 0)}
		if fault.Has(err, code) != codes[code] || errors.Is(err, asked) != codes[code] {
			t.Fatalf("%v: is the code %d in %v: %t, %t", what, code, want, fault.Has(err, code), errors.Is(err, asked))
		}
	}
	inner := err
	for range want[1:] {
		inner = errors.Unwrap(inner)
	}
	if last, ok := inner.(*fault.Fault); !ok || last.Link != want[len(want)-1] || last.Err != nil {
		t.Fatalf("%v: the innermost is %#v", what, inner)
	}
}

// checkCommand holds Check and Encode of a command against these links: none for a valid one.
func checkCommand(t *testing.T, c api.Cmd, want ...fault.Link) {
	t.Helper()
	checkError(t, c, cmd.Check(c), want)
	b, err := cmd.Encode(c)
	checkError(t, c, err, want)
	if len(want) > 0 {
		if len(b) != 0 {
			t.Fatalf("Encode(%v): %v beside an error", c, b)
		}
		return
	}
	if !bytes.Equal(b, encoded(c)) {
		t.Fatalf("Encode(%v): %v; want %v", c, b, encoded(c))
	}
	checkDecode(t, b, c)
}

// checkDecode holds Decode of bytes, with others behind them in the same memory and without, against a command, or against the links of an error.
func checkDecode(t *testing.T, b []byte, want api.Cmd, links ...fault.Link) {
	t.Helper()
	for _, given := range [][]byte{slices.Clip(slices.Clone(b)), withSpare(b)} {
		c, err := cmd.Decode(given)
		checkError(t, b, err, links)
		if c != want {
			t.Fatalf("Decode(%v): %v; want %v", b, c, want)
		}
	}
}

// checkModel holds Decode of bytes against the model, by no more than the command and the links, as there are many texts.
func checkModel(t *testing.T, b []byte) {
	t.Helper()
	c, err := cmd.Decode(b)
	want, links := decoded(b)
	if c != want || !slices.Equal(fault.Links(err), links) || (err == nil) != (links == nil) {
		t.Fatalf("Decode(%v): %v, %v; want %v, %v", b, c, fault.Text(err), want, links)
	}
}

// withSpare is bytes behind which, in the same memory, other ones lie: each a number, so that they would end a command that is cut short.
func withSpare(b []byte) []byte {
	return slices.Concat(b, bytes.Repeat([]byte{1}, 40))[:len(b)]
}

// whole is bytes with what lies behind them.
func whole(b []byte) []byte { return b[:cap(b)] }

func fill(b []byte, x byte) {
	for i := range whole(b) {
		whole(b)[i] = x
	}
}

// noOps are numbers that are no Op: some of them are one in a byte, or in 32 bits.
func noOps() []int {
	ops := []int{math.MaxInt, math.MaxInt - 1, math.MinInt, math.MinInt + 1, most, most + 1, 1 << 32, -1 << 32, 100, 1000}
	for op := range 256 {
		if op < 1 || op > opMax {
			ops = append(ops, op)
		}
		ops = append(ops, -1-op, op+256, op+1<<16, op+1<<32, op-1<<32, op+math.MinInt)
	}
	return ops
}

// edgeNumbers are the numbers at which something changes for a field.
func edgeNumbers() []int {
	return []int{0, 1, 127, 128, most, most + 1, -1, math.MaxInt, math.MinInt}
}

// moreNumbers are those around the lengths of an encoding, those that the limits are far beyond, and those that are others in fewer bits.
func moreNumbers() []int {
	numbers := []int{2, 3, 126, 129, 200, 255, 256, 300, 1000, 1001, -2, -127, -128, -129, -most, -most - 1, -most - 2, 1 << 32, 1<<32 + 1, -1 << 32, math.MaxInt - 1, math.MinInt + 1}
	for _, bits := range []int{7, 14, 21, 28, 30, 31, 35, 42, 49, 56, 62} {
		numbers = append(numbers, 1<<bits-2, 1<<bits-1, 1<<bits, 1<<bits+1)
	}
	return numbers
}

// rows are all rows of length elements, each one of these.
func rows[T any](elements []T, length int) [][]T {
	all := [][]T{nil}
	for range length {
		var longer [][]T
		for _, row := range all {
			for _, x := range elements {
				longer = append(longer, append(slices.Clip(row), x))
			}
		}
		all = longer
	}
	return all
}

// TestExamples holds the examples of the chapter.
func TestExamples(t *testing.T) {
	b, err := cmd.Encode(api.Cmd{Op: api.Enter, ID: 7, Group: 2, Weight: 300, Cap: 4})
	if err != nil || !bytes.Equal(b, []byte{9, 4, 172, 2, 2, 7}) {
		t.Error(b, err)
	}
	b, err = cmd.Encode(api.Cmd{Op: api.Arrive, ID: 7, Share: 3})
	if err != nil || !bytes.Equal(b, []byte{1, 3, 7}) {
		t.Error(b, err)
	}
	if _, err := cmd.Decode([]byte{1, 3, 128}); fault.Text(err) != "cmd 1 #3: field 2 #3" {
		t.Error(fault.Text(err))
	}
	if _, err := cmd.Decode([]byte{2, 3, 3}); fault.Text(err) != "cmd 2 #3: field 1 #4" {
		t.Error(fault.Text(err))
	}
	if err := cmd.Check(api.Cmd{Op: api.Depart, ID: -1}); fault.Text(err) != "cmd 2 #5: field 1 #5" {
		t.Error(fault.Text(err))
	}
	if cmd.Fields(0) != -1 || cmd.Fields(api.Repack) != 0 {
		t.Error(cmd.Fields(0), cmd.Fields(api.Repack))
	}
	if cmd.Most != most {
		t.Error(cmd.Most)
	}
}

// TestFields holds P11.1 for Fields.
func TestFields(t *testing.T) {
	counts := []int{2, 1, 2, 1, 1, 2, 2, 1, 4, 2, 2, 2, 1, 1, 0, 1, 1}
	for i, want := range counts {
		if got := cmd.Fields(i + 1); got != want {
			t.Errorf("Fields(%d): %d; want %d", i+1, got, want)
		}
	}
	for _, op := range noOps() {
		if got := cmd.Fields(op); got != -1 {
			t.Errorf("Fields(%d): %d; want -1", op, got)
		}
	}
}

// TestKnown holds P11.1 and P11.2 for a command of each kind, all of whose fields differ.
func TestKnown(t *testing.T) {
	type row struct {
		c api.Cmd
		b []byte
	}
	for _, k := range []row{
		{api.Cmd{Op: api.Arrive, Share: 300, ID: 7}, []byte{1, 172, 2, 7}},
		{api.Cmd{Op: api.Depart, ID: 200}, []byte{2, 200, 1}},
		{api.Cmd{Op: api.Reweight, Share: 5, ID: 128}, []byte{3, 5, 128, 1}},
		{api.Cmd{Op: api.Block, ID: 127}, []byte{4, 127}},
		{api.Cmd{Op: api.Wake, ID: 1}, []byte{5, 1}},
		{api.Cmd{Op: api.Found, Share: 64, Group: 40}, []byte{6, 64, 40}},
		{api.Cmd{Op: api.Fund, Share: 3, Group: 129}, []byte{7, 3, 129, 1}},
		{api.Cmd{Op: api.Disband, Group: 9}, []byte{8, 9}},
		{api.Cmd{Op: api.Enter, Cap: 4, Weight: 300, Group: 2, ID: 7}, []byte{9, 4, 172, 2, 2, 7}},
		{api.Cmd{Op: api.Weigh, Weight: 1000, ID: 8}, []byte{10, 232, 7, 8}},
		{api.Cmd{Op: api.Limit, Cap: 6, ID: 11}, []byte{11, 6, 11}},
		{api.Cmd{Op: api.Move, Group: 12, ID: 13}, []byte{12, 12, 13}},
		{api.Cmd{Op: api.Plug, Core: 15}, []byte{13, 15}},
		{api.Cmd{Op: api.Unplug, Core: 14}, []byte{14, 14}},
		{api.Cmd{Op: api.Repack}, []byte{15}},
		{api.Cmd{Op: api.Ticks, N: most}, []byte{16, 255, 255, 255, 255, 7}},
		{api.Cmd{Op: api.Query, ID: 16384}, []byte{17, 128, 128, 1}},
	} {
		checkError(t, k.c, cmd.Check(k.c), nil)
		if b, err := cmd.Encode(k.c); err != nil || !bytes.Equal(b, k.b) {
			t.Errorf("Encode(%v): %v, %v; want %v", k.c, b, err, k.b)
		}
		checkDecode(t, k.b, k.c)
	}
}

// TestNoOp holds P11.1 for what is no Op: alone, with each other member, and with all of them, right ones and wrong ones.
func TestNoOp(t *testing.T) {
	for _, op := range noOps() {
		want := link(api.ErrArg, "cmd", op)
		checkCommand(t, api.Cmd{Op: op}, want)
		for _, n := range []int{1, most, most + 1, -1, math.MinInt} {
			for _, name := range members() {
				c := api.Cmd{Op: op}
				*member(&c, name) = n
				checkCommand(t, c, want)
			}
			checkCommand(t, api.Cmd{Op: op, ID: n, Group: n, Share: n, Weight: n, Cap: n, Core: n, N: n}, want)
		}
	}
	checkCommand(t, api.Cmd{}, link(api.ErrArg, "cmd", 0))
}

// TestEachField holds P11.1 for each field of each kind: the other ones are 0, or small, or as great as may be.
func TestEachField(t *testing.T) {
	for op := 1; op <= opMax; op++ {
		fields, _ := fieldsOf(op)
		for at := range fields {
			for _, n := range slices.Concat(edgeNumbers(), moreNumbers()) {
				var want []fault.Link
				if n < 0 || n > most {
					want = []fault.Link{link(api.ErrOver, "cmd", op), link(api.ErrOver, "field", at+1)}
				}
				for _, beside := range []int{0, 1, 200, most} {
					numbers := slices.Repeat([]int{beside}, len(fields))
					numbers[at] = n
					checkCommand(t, command(op, numbers...), want...)
				}
			}
		}
	}
}

// TestAllFields holds P11.1 for all fields at once: of several that are wrong, the first one is told.
func TestAllFields(t *testing.T) {
	for op := 1; op <= opMax; op++ {
		fields, _ := fieldsOf(op)
		for _, numbers := range rows(edgeNumbers(), len(fields)) {
			c := command(op, numbers...)
			first := slices.IndexFunc(numbers, func(n int) bool { return n < 0 || n > most })
			if first < 0 {
				checkCommand(t, c)
				continue
			}
			checkCommand(t, c, link(api.ErrOver, "cmd", op), link(api.ErrOver, "field", first+1))
		}
	}
}

// withOthers is a command in which each other member whose bit is set has a number.
func withOthers(c api.Cmd, set uint, n int) api.Cmd {
	for i, name := range othersOf(c.Op) {
		if set>>i&1 == 1 {
			*member(&c, name) = n
		}
	}
	return c
}

// TestOtherMembers holds P11.1 for members that are no field: each one, and any of them together, with right fields beside them.
func TestOtherMembers(t *testing.T) {
	for op := 1; op <= opMax; op++ {
		fields, _ := fieldsOf(op)
		for set := uint(1); set < 1<<len(othersOf(op)); set++ {
			for _, n := range []int{1, 128, most, most + 1, -1, 1 << 32, math.MaxInt, math.MinInt} {
				for _, beside := range []int{0, 1, 128, most} {
					c := command(op, slices.Repeat([]int{beside}, len(fields))...)
					checkCommand(t, withOthers(c, set, n), link(api.ErrArg, "cmd", op))
				}
			}
		}
	}
}

// TestOthersThatCancel holds P11.1 for other members whose sum is 0.
func TestOthersThatCancel(t *testing.T) {
	for op := 1; op <= opMax; op++ {
		names := othersOf(op)
		for i := range names {
			for j := range i {
				c := api.Cmd{Op: op}
				*member(&c, names[i]), *member(&c, names[j]) = 5, -5
				checkCommand(t, c, link(api.ErrArg, "cmd", op))
			}
		}
	}
}

// TestFieldAheadOfOthers holds P11.1: a field that is wrong is told ahead of another member that is not 0.
func TestFieldAheadOfOthers(t *testing.T) {
	for op := 1; op <= opMax; op++ {
		fields, _ := fieldsOf(op)
		for at := range fields {
			for _, n := range []int{most + 1, -1, math.MaxInt, math.MinInt} {
				for set := uint(0); set < 1<<len(othersOf(op)); set++ {
					numbers := slices.Repeat([]int{1}, len(fields))
					numbers[at] = n
					c := command(op, numbers...)
					for _, other := range []int{1, -1, most + 1} {
						checkCommand(t, withOthers(c, set, other), link(api.ErrOver, "cmd", op), link(api.ErrOver, "field", at+1))
					}
				}
			}
		}
	}
}

// someCommand is any command: most often a valid one, or nearly so.
func someCommand(r *rand.Rand) api.Cmd {
	c := api.Cmd{Op: r.Intn(opMax + 3)}
	fields, _ := fieldsOf(c.Op)
	for _, name := range fields {
		*member(&c, name) = int(r.Int31()) >> r.Intn(31)
	}
	for range max(0, r.Intn(5)-2) {
		numbers := slices.Concat(edgeNumbers(), moreNumbers())
		*member(&c, members()[r.Intn(len(members()))]) = numbers[r.Intn(len(numbers))]
	}
	return c
}

// TestCommands holds P11.1 and P11.3 for any commands.
func TestCommands(t *testing.T) {
	r := rand.New(rand.NewSource(111))
	for range 50000 {
		c := someCommand(r)
		checkCommand(t, c, checked(c)...)
	}
}

// TestNoBytes holds P11.2 for no bytes, with others behind them in the same memory too.
func TestNoBytes(t *testing.T) {
	for _, b := range [][]byte{nil, {}, []byte{15, 15}[:0], []byte{1, 3, 7}[:0]} {
		checkDecode(t, b, api.Cmd{}, link(api.ErrForm, "cmd", 0))
	}
}

// TestFirstByte holds P11.2 for each first byte, whatever is behind it.
func TestFirstByte(t *testing.T) {
	for x := range 256 {
		for _, behind := range [][]byte{nil, {0}, {1}, {15}, {128}, {255, 255}, {1, 1}, {1, 1, 1, 1}, {0, 0, 0, 0, 0}} {
			b := append([]byte{byte(x)}, behind...)
			if x >= 1 && x <= opMax {
				checkModel(t, b)
				continue
			}
			checkDecode(t, b, api.Cmd{}, link(api.ErrForm, "cmd", x))
		}
	}
}

// TestCut holds P11.2 for commands that are cut short ahead of each field, and within each.
func TestCut(t *testing.T) {
	for op := 1; op <= opMax; op++ {
		fields, _ := fieldsOf(op)
		for _, numbers := range rows([]int{0, 127, 128, 300, 16384, most}, len(fields)) {
			b := []byte{byte(op)}
			for at, n := range numbers {
				text := binary.AppendUvarint(nil, uint64(n))
				for length := range text {
					checkDecode(t, slices.Concat(b, text[:length]), api.Cmd{}, link(api.ErrForm, "cmd", op), link(api.ErrForm, "field", at+1))
				}
				b = append(b, text...)
			}
			checkDecode(t, b, command(op, numbers...))
		}
	}
}

// A wrongText is the bytes of a field that can't be read, and what is told of it.
type wrongText struct {
	b []byte
	e api.Errno
}

// times is a byte n times over, and some bytes behind these.
func times(n int, x byte, behind ...byte) []byte {
	return append(bytes.Repeat([]byte{x}, n), behind...)
}

// endedTexts are those that end: what is behind them is not theirs.
func endedTexts() []wrongText {
	return []wrongText{
		// Most + 1, and what is greater.
		{[]byte{128, 128, 128, 128, 8}, api.ErrOver},
		{[]byte{129, 128, 128, 128, 8}, api.ErrOver},
		{[]byte{255, 255, 255, 255, 15}, api.ErrOver},
		{[]byte{128, 128, 128, 128, 16}, api.ErrOver},
		{[]byte{129, 128, 128, 128, 16}, api.ErrOver},
		{[]byte{255, 255, 255, 255, 127}, api.ErrOver},
		{times(5, 128, 1), api.ErrOver},
		{times(8, 255, 127), api.ErrOver},
		{times(9, 128, 1), api.ErrOver},
		{times(9, 255, 1), api.ErrOver},
		// Not as short as possible, those of Most and of Most + 1 among them.
		{[]byte{128, 0}, api.ErrForm},
		{[]byte{129, 0}, api.ErrForm},
		{[]byte{255, 0}, api.ErrForm},
		{[]byte{128, 128, 0}, api.ErrForm},
		{[]byte{172, 130, 0}, api.ErrForm},
		{[]byte{255, 255, 255, 255, 135, 0}, api.ErrForm},
		{[]byte{128, 128, 128, 128, 136, 0}, api.ErrForm},
		{times(8, 128, 0), api.ErrForm},
		{times(9, 128, 0), api.ErrForm},
		{times(9, 255, 0), api.ErrForm},
		// Not below 2^64, or of more than ten bytes.
		{times(9, 128, 2), api.ErrForm},
		{times(9, 255, 2), api.ErrForm},
		{times(9, 255, 127), api.ErrForm},
		{times(10, 128), api.ErrForm},
		{times(10, 255), api.ErrForm},
		{times(10, 128, 0), api.ErrForm},
		{times(10, 128, 1), api.ErrForm},
		{times(30, 129, 1), api.ErrForm},
	}
}

// openTexts are those that do not end: nothing may be behind them.
func openTexts() []wrongText {
	texts := []wrongText{{nil, api.ErrForm}, {[]byte{172}, api.ErrForm}, {[]byte{255, 255, 255, 255}, api.ErrForm}, {[]byte{255, 255, 255, 255, 135}, api.ErrForm}}
	for n := 1; n < 14; n++ {
		texts = append(texts, wrongText{times(n, 128), api.ErrForm}, wrongText{times(n, 255), api.ErrForm})
	}
	return texts
}

// TestWrongFields holds P11.2 for each field that can't be read, with right fields ahead of it, and with no more bytes, right fields or any bytes behind it.
func TestWrongFields(t *testing.T) {
	for op := 1; op <= opMax; op++ {
		fields, _ := fieldsOf(op)
		for at := range fields {
			for _, head := range [][]byte{{0}, {7}, {172, 2}, {255, 255, 255, 255, 7}} {
				ahead := append([]byte{byte(op)}, bytes.Repeat(head, at)...)
				for _, w := range endedTexts() {
					want := []fault.Link{link(api.ErrForm, "cmd", op), link(w.e, "field", at+1)}
					for _, behind := range [][]byte{nil, {0}, times(len(fields)-at-1, 1), times(9, 1), {128}, {128, 0}, times(20, 255)} {
						checkDecode(t, slices.Concat(ahead, w.b, behind), api.Cmd{}, want...)
					}
				}
				for _, w := range openTexts() {
					checkDecode(t, slices.Concat(ahead, w.b), api.Cmd{}, link(api.ErrForm, "cmd", op), link(w.e, "field", at+1))
				}
			}
		}
	}
}

// TestGreatestFields holds P11.2 for a field of Most, and for one of Most + 1.
func TestGreatestFields(t *testing.T) {
	for op := 1; op <= opMax; op++ {
		fields, _ := fieldsOf(op)
		for at := range fields {
			numbers := slices.Repeat([]int{3}, len(fields))
			numbers[at] = most
			ahead, behind := append([]byte{byte(op)}, times(at, 3)...), times(len(fields)-at-1, 3)
			checkDecode(t, slices.Concat(ahead, []byte{255, 255, 255, 255, 7}, behind), command(op, numbers...))
			checkDecode(t, slices.Concat(ahead, []byte{128, 128, 128, 128, 8}, behind), api.Cmd{}, link(api.ErrForm, "cmd", op), link(api.ErrOver, "field", at+1))
		}
	}
}

// TestBytesBehind holds P11.2 for bytes behind the last field, few and many.
func TestBytesBehind(t *testing.T) {
	for op := 1; op <= opMax; op++ {
		fields, _ := fieldsOf(op)
		for _, numbers := range rows([]int{0, 7, 128, most}, len(fields)) {
			b := encoded(command(op, numbers...))
			want := []fault.Link{link(api.ErrForm, "cmd", op), link(api.ErrLong, "field", len(fields))}
			for _, behind := range [][]byte{{0}, {1}, {15}, {127}, {128}, {255}, {0, 0}, {128, 0}, times(10, 128), times(300, 1)} {
				checkDecode(t, slices.Concat(b, behind), api.Cmd{}, want...)
			}
			checkDecode(t, slices.Concat(b, b), api.Cmd{}, want...)
		}
	}
	checkDecode(t, []byte{15, 0}, api.Cmd{}, link(api.ErrForm, "cmd", 15), link(api.ErrLong, "field", 0))
}

// TestFirstWrongField holds P11.2: of several fields that can't be read, and of bytes behind the last one, the first is told.
func TestFirstWrongField(t *testing.T) {
	texts := []wrongText{
		{[]byte{7}, api.OK},
		{[]byte{172, 2}, api.OK},
		{[]byte{128, 128, 128, 128, 8}, api.ErrOver},
		{[]byte{128, 0}, api.ErrForm},
		{times(10, 128), api.ErrForm},
	}
	for op := 1; op <= opMax; op++ {
		fields, _ := fieldsOf(op)
		for _, row := range rows(texts, len(fields)) {
			b := []byte{byte(op)}
			first := link(api.ErrLong, "field", len(fields))
			for at, text := range slices.Backward(row) {
				b = slices.Insert(b, 1, text.b...)
				if text.e != api.OK {
					first = link(text.e, "field", at+1)
				}
			}
			for _, behind := range [][]byte{{0}, {128}, {255, 255}} {
				checkDecode(t, slices.Concat(b, behind), api.Cmd{}, link(api.ErrForm, "cmd", op), first)
			}
			checkModel(t, b)
		}
	}
}

// TestFewBytes holds P11.2 for all texts of up to two bytes, for all of three that begin with an Op, and for all of up to five of the bytes at the edges.
func TestFewBytes(t *testing.T) {
	for x := range 256 {
		checkModel(t, []byte{byte(x)})
		for y := range 256 {
			checkModel(t, []byte{byte(x), byte(y)})
		}
	}
	for _, op := range []byte{api.Arrive, api.Depart, api.Disband, api.Enter, api.Repack, api.Ticks} {
		for x := range 256 {
			for y := range 256 {
				checkModel(t, []byte{op, byte(x), byte(y)})
			}
		}
	}
	for length := range 5 {
		for _, b := range rows([]byte{0, 1, 9, 12, 15, 18, 127, 128, 255}, length+1) {
			checkModel(t, b)
		}
	}
}

// someText is the bytes of a command, most often spoilt, or any bytes.
func someText(r *rand.Rand) []byte {
	op := 1 + r.Intn(opMax)
	fields, _ := fieldsOf(op)
	b := []byte{byte(op)}
	for range fields {
		texts := slices.Concat(endedTexts(), openTexts())
		switch r.Intn(8) {
		case 0:
			b = append(b, texts[r.Intn(len(texts))].b...)
		default:
			b = binary.AppendUvarint(b, uint64(r.Int31()>>r.Intn(31)))
		}
	}
	switch r.Intn(6) {
	case 0:
		b = b[:r.Intn(len(b)+1)]
	case 1:
		b = append(b, byte(r.Intn(256)))
	case 2:
		b[r.Intn(len(b))] = byte(r.Intn(256))
	case 3:
		r.Read(b)
	}
	return b
}

// TestDecode holds P11.2 and P11.3 for any bytes.
func TestDecode(t *testing.T) {
	r := rand.New(rand.NewSource(112))
	valid := 0
	for range 50000 {
		b := someText(r)
		checkModel(t, b)
		c, err := cmd.Decode(b)
		if err != nil {
			continue
		}
		valid++
		checkError(t, c, cmd.Check(c), nil)
		if again, err := cmd.Encode(c); err != nil || !bytes.Equal(again, b) {
			t.Fatalf("Encode of what %v is: %v, %v", b, again, err)
		}
	}
	if valid < 1000 {
		t.Error(valid)
	}
	long := append([]byte{1, 3, 7}, times(1<<20, 1)...)
	checkModel(t, long)
	checkModel(t, append([]byte{1}, times(1<<20, 128)...))
}

// TestDecodeMemory holds the rule on memory for Decode: bytes, and what lies behind them, stay, whether they are a command or not.
func TestDecodeMemory(t *testing.T) {
	for _, text := range [][]byte{{}, {15}, {9, 4, 172, 2, 2, 7}, {9, 4, 172}, {1, 3, 128}, {2, 3, 3}, {0, 1}, {18}, {16, 255, 255, 255, 255, 7}, {16, 128, 128, 128, 128, 8}} {
		b := withSpare(text)
		old := slices.Clone(whole(b))
		c, err := cmd.Decode(b)
		if !bytes.Equal(whole(b), old) {
			t.Errorf("Decode: of %v, %v is left", old, whole(b))
		}
		want, links := decoded(text)
		fill(b, 99)
		checkError(t, text, err, links)
		if c != want {
			t.Errorf("Decode(%v): %v once the bytes change", text, c)
		}
	}
}

// TestEncodeMemory holds the rule on memory for Encode: the bytes of each call are new, with what lies behind them.
func TestEncodeMemory(t *testing.T) {
	for op := 1; op <= opMax; op++ {
		fields, _ := fieldsOf(op)
		c := command(op, slices.Repeat([]int{300}, len(fields))...)
		first, _ := cmd.Encode(c)
		second, err := cmd.Encode(c)
		checkError(t, c, err, nil)
		_ = append(first, 66, 67, 68, 69)
		fill(first, 99)
		if !bytes.Equal(second, encoded(c)) {
			t.Errorf("Encode(%v): %v once another result changes", c, second)
		}
		fill(second, 98)
		for _, x := range first {
			if x != 99 {
				t.Errorf("Encode(%v): two results share memory", c)
			}
		}
		if third, err := cmd.Encode(c); err != nil || !bytes.Equal(third, encoded(c)) {
			t.Errorf("Encode(%v): %v, %v once others changed", c, third, err)
		}
	}
}

// TestErrorMemory holds the rule on memory for errors: each is one of its own, down to the innermost link.
func TestErrorMemory(t *testing.T) {
	decode := func(b ...byte) func() error {
		return func() error {
			_, err := cmd.Decode(b)
			return err
		}
	}
	check := func(c api.Cmd) func() error {
		return func() error { return cmd.Check(c) }
	}
	encode := func(c api.Cmd) func() error {
		return func() error {
			_, err := cmd.Encode(c)
			return err
		}
	}
	noOp, wrongField, other := api.Cmd{}, api.Cmd{Op: api.Depart, ID: -1}, api.Cmd{Op: api.Repack, N: 1}
	for i, call := range []func() error{
		decode(), decode(0), decode(1, 3, 128), decode(2, 3, 3), decode(2, 128, 128, 128, 128, 8),
		check(noOp), check(wrongField), check(other), encode(noOp), encode(wrongField), encode(other),
	} {
		first, second := call(), call()
		want := fault.Links(second)
		for err := first; err != nil; err = errors.Unwrap(err) {
			err.(*fault.Fault).Link = link(api.ErrLast, "spoilt", 99)
		}
		checkError(t, i, second, want)
		checkError(t, i, call(), want)
	}
}

// TestRoundTrip holds P11.3: Decode inverts Encode, Encode inverts Decode, and different commands have different encodings.
func TestRoundTrip(t *testing.T) {
	found := map[string]api.Cmd{}
	for op := 1; op <= opMax; op++ {
		fields, _ := fieldsOf(op)
		for _, numbers := range rows([]int{0, 1, 2, 7, 127, 128, 129, 255, 256, 16383, 16384, most - 1, most}, len(fields)) {
			c := command(op, numbers...)
			b, err := cmd.Encode(c)
			if err != nil {
				t.Fatal(c, fault.Text(err))
			}
			if other, ok := found[string(b)]; ok {
				t.Fatalf("%v and %v are %v", other, c, b)
			}
			found[string(b)] = c
			if got, err := cmd.Decode(b); err != nil || got != c {
				t.Fatalf("Decode(%v): %v, %v; want %v", b, got, err, c)
			}
		}
	}
	for text, c := range found {
		if b, err := cmd.Encode(c); err != nil || string(b) != text {
			t.Fatalf("Encode(%v): %v, %v; want %v", c, b, err, []byte(text))
		}
	}
}

// TestDifferent holds P11.3: any commands that differ have encodings that differ.
func TestDifferent(t *testing.T) {
	r := rand.New(rand.NewSource(113))
	found := map[string]api.Cmd{}
	for range 100000 {
		c := someCommand(r)
		b, err := cmd.Encode(c)
		if err != nil {
			continue
		}
		if other, ok := found[string(b)]; ok && other != c {
			t.Fatalf("%v and %v are %v", other, c, b)
		}
		found[string(b)] = c
	}
	if len(found) < 10000 {
		t.Error(len(found))
	}
}
