package ring_test

import (
	"fmt"
	"math"
	"math/big"
	"math/rand"
	"slices"
	"testing"

	"dogwatch/api"
	"dogwatch/ring"
)

// farNumbers are neither an id, nor a weight, nor a limit.
var farNumbers = []int{math.MinInt, math.MinInt + 1, -1 << 40, -1<<32 + 1, -2048, -2, -1, 0, 1<<40 + 1, 1<<48 + 1, math.MaxInt - 1, math.MaxInt}

// limits are those with which each ring of a bench is made: what it answers may not tell which.
var limits = []int{1 << 11, 1<<11 + 1, 3000, 1 << 16, 1 << 40}

// A mate is a member of the model; its count is never rebased.
type mate struct {
	id, weight int
	count      int64
	on         bool
}

// A model is what a ring is held against: the terms, word by word, with fractions of any size.
type model struct {
	mates []mate
	kept  *big.Rat
}

func newModel() *model { return &model{kept: new(big.Rat)} }

func (m *model) clone() *model {
	return &model{slices.Clone(m.mates), m.kept}
}

func (x mate) pass() *big.Rat { return big.NewRat(x.count, int64(x.weight)) }

// down is a fraction rounded down; none of them is negative.
func down(r *big.Rat) int64 { return new(big.Int).Quo(r.Num(), r.Denom()).Int64() }

// up is a fraction rounded up.
func up(r *big.Rat) int64 {
	n := down(r)
	if !r.IsInt() {
		n++
	}
	return n
}

func times(r *big.Rat, w int) *big.Rat {
	return new(big.Rat).Mul(r, big.NewRat(int64(w), 1))
}

// first is the mate that is on and has the least pass, of equal passes the least id; nil if none is on.
func (m *model) first() *mate {
	var best *mate
	for i := range m.mates {
		x := &m.mates[i]
		if !x.on {
			continue
		}
		if best == nil {
			best = x
			continue
		}
		order := x.pass().Cmp(best.pass())
		if order < 0 || order == 0 && x.id < best.id {
			best = x
		}
	}
	return best
}

func (m *model) floor() *big.Rat {
	if x := m.first(); x != nil {
		return x.pass()
	}
	return m.kept
}

func (m *model) find(id int) *mate {
	for i := range m.mates {
		if m.mates[i].id == id {
			return &m.mates[i]
		}
	}
	return nil
}

func (x *mate) clamp(floor *big.Rat) {
	f := times(floor, x.weight)
	if x.count < up(f) {
		x.count = up(f)
	}
	if x.count > down(f)+1 {
		x.count = down(f) + 1
	}
}

func (m *model) join(id, w int) api.Errno {
	switch {
	case id < 1 || id > 200:
		return api.ErrID
	case w < 1 || w > 1000:
		return api.ErrWeight
	case m.find(id) != nil:
		return api.ErrTwice
	case len(m.mates) == 32:
		return api.ErrTable
	}
	m.mates = append(m.mates, mate{id, w, up(times(m.floor(), w)), true})
	return api.OK
}

func (m *model) leave(id int) api.Errno {
	x := m.find(id)
	if x == nil {
		return api.ErrNone
	}
	was := m.floor()
	wasOn := x.on
	m.mates = slices.DeleteFunc(m.mates, func(y mate) bool { return y.id == id })
	if wasOn && m.first() == nil {
		m.kept = was
	}
	return api.OK
}

func (m *model) block(id int) api.Errno {
	x := m.find(id)
	if x == nil {
		return api.ErrNone
	}
	if !x.on {
		return api.ErrState
	}
	was := m.floor()
	x.on = false
	if m.first() == nil {
		m.kept = was
	}
	return api.OK
}

func (m *model) wake(id int) api.Errno {
	x := m.find(id)
	if x == nil {
		return api.ErrNone
	}
	if x.on {
		return api.ErrState
	}
	x.clamp(m.floor())
	x.on = true
	return api.OK
}

func (m *model) weigh(id, w int) api.Errno {
	x := m.find(id)
	if x == nil {
		return api.ErrNone
	}
	if w < 1 || w > 1000 {
		return api.ErrWeight
	}
	was := m.floor()
	x.count = up(times(x.pass(), w))
	x.weight = w
	if x.on {
		x.clamp(was)
	}
	return api.OK
}

func (m *model) pick() (int, bool) {
	x := m.first()
	if x == nil {
		return 0, false
	}
	x.count++
	return x.id, true
}

// lead is nil if there is no such member or it is off.
func (m *model) lead(id int) *big.Rat {
	x := m.find(id)
	if x == nil || !x.on {
		return nil
	}
	return new(big.Rat).Sub(x.pass(), m.floor())
}

func (m *model) members() []ring.Member {
	var l []ring.Member
	for id := 1; id <= 200; id++ {
		if x := m.find(id); x != nil {
			l = append(l, ring.Member{ID: id, Weight: x.weight, On: x.on})
		}
	}
	return l
}

func TestModel(t *testing.T) {
	m := newModel()
	if m.join(1, 2) != api.OK || m.join(2, 1) != api.OK || m.join(2, 4) != api.ErrTwice || m.join(0, 0) != api.ErrID || m.join(3, 0) != api.ErrWeight {
		t.Error("join")
	}
	for i, want := range []int{1, 2, 1, 1, 2, 1} {
		if id, ok := m.pick(); id != want || !ok {
			t.Error(i, id, ok)
		}
	}
	// 4/2 and 2/1.
	m.pick()
	if m.lead(1).Cmp(big.NewRat(1, 2)) != 0 || m.lead(2).Sign() != 0 || m.lead(3) != nil {
		t.Error("lead", m.lead(1), m.lead(2))
	}
	if m.block(2) != api.OK || m.block(2) != api.ErrState || m.floor().Cmp(big.NewRat(5, 2)) != 0 || m.wake(1) != api.ErrState {
		t.Error("block", m.floor())
	}
	if m.leave(1) != api.OK || m.leave(1) != api.ErrNone || m.floor().Cmp(big.NewRat(5, 2)) != 0 || m.first() != nil {
		t.Error("leave", m.floor())
	}
	if m.weigh(2, 3) != api.OK || m.find(2).count != 6 || m.wake(2) != api.OK || m.find(2).count != 8 || m.weigh(2, 0) != api.ErrWeight || m.weigh(1, 0) != api.ErrNone {
		t.Error("weigh", m.find(2).count)
	}
	if up(big.NewRat(7, 2)) != 4 || up(big.NewRat(4, 1)) != 4 || down(big.NewRat(7, 2)) != 3 || up(new(big.Rat)) != 0 {
		t.Error("rounding")
	}
	x := mate{1, 2, 9, true}
	x.clamp(big.NewRat(5, 4))
	if x.count != 3 {
		t.Error("clamp", x.count)
	}
}

// A bench has a model and rings of all limits, which are called alike.
type bench struct {
	t     *testing.T
	m     *model
	rings []*ring.Ring
	// last are the latest calls, for what a test tells.
	last []string
}

func newRing(t *testing.T, limit int) *ring.Ring {
	t.Helper()
	r, e := ring.New(limit)
	if r == nil || e != api.OK {
		t.Fatalf("New(%d): %v, %d", limit, r, e)
	}
	return r
}

func newBench(t *testing.T) *bench {
	t.Helper()
	b := &bench{t: t, m: newModel()}
	for _, limit := range limits {
		b.rings = append(b.rings, newRing(t, limit))
	}
	return b
}

// fork is a bench of copies.
func (b *bench) fork() *bench {
	b.t.Helper()
	f := &bench{b.t, b.m.clone(), nil, slices.Clone(b.last)}
	f.note("Fork()")
	for _, r := range b.rings {
		c := r.Fork()
		if c == nil || c == r {
			b.t.Fatalf("Fork: %p of %p", c, r)
		}
		f.rings = append(f.rings, c)
	}
	return f
}

func (b *bench) note(format string, args ...any) {
	if len(b.last) > 30 {
		b.last = slices.Clone(b.last[10:])
	}
	b.last = append(b.last, fmt.Sprintf(format, args...))
}

// expect holds what a call of each ring answers against what the model answers.
func (b *bench) expect(name string, want api.Errno, call func(*ring.Ring) api.Errno) api.Errno {
	b.t.Helper()
	b.note("%s = %d", name, want)
	for i, r := range b.rings {
		if e := call(r); e != want {
			b.t.Fatalf("limit %d: %d; want %v", limits[i], e, b.last)
		}
	}
	return want
}

func (b *bench) join(id, w int) api.Errno {
	b.t.Helper()
	return b.expect(fmt.Sprintf("Join(%d, %d)", id, w), b.m.join(id, w), func(r *ring.Ring) api.Errno { return r.Join(id, w) })
}

func (b *bench) leave(id int) api.Errno {
	b.t.Helper()
	return b.expect(fmt.Sprintf("Leave(%d)", id), b.m.leave(id), func(r *ring.Ring) api.Errno { return r.Leave(id) })
}

func (b *bench) block(id int) api.Errno {
	b.t.Helper()
	return b.expect(fmt.Sprintf("Block(%d)", id), b.m.block(id), func(r *ring.Ring) api.Errno { return r.Block(id) })
}

func (b *bench) wake(id int) api.Errno {
	b.t.Helper()
	return b.expect(fmt.Sprintf("Wake(%d)", id), b.m.wake(id), func(r *ring.Ring) api.Errno { return r.Wake(id) })
}

func (b *bench) weigh(id, w int) api.Errno {
	b.t.Helper()
	return b.expect(fmt.Sprintf("Weigh(%d, %d)", id, w), b.m.weigh(id, w), func(r *ring.Ring) api.Errno { return r.Weigh(id, w) })
}

// next holds Next, twice, for it may not change anything.
func (b *bench) next() {
	b.t.Helper()
	want := 0
	if x := b.m.first(); x != nil {
		want = x.id
	}
	for i, r := range b.rings {
		for range 2 {
			if id, ok := r.Next(); id != want || ok != (want > 0) {
				b.t.Fatalf("limit %d: Next: %d, %v; want %d behind %v", limits[i], id, ok, want, b.last)
			}
		}
	}
}

// pick answers who was picked, 0 if nobody was.
func (b *bench) pick() int {
	b.t.Helper()
	want, wantOK := b.m.pick()
	b.note("Pick() = %d", want)
	for i, r := range b.rings {
		if id, ok := r.Pick(); id != want || ok != wantOK {
			b.t.Fatalf("limit %d: Pick: %d, %v; want %d of %v", limits[i], id, ok, want, b.last)
		}
	}
	return want
}

func (b *bench) picks(n int) {
	b.t.Helper()
	for range n {
		b.pick()
	}
}

// lead holds the lead of an id, and that no lead exceeds 1/weight.
func (b *bench) lead(id int) {
	b.t.Helper()
	var num, den uint64
	want := b.m.lead(id)
	if want != nil {
		num, den = want.Num().Uint64(), want.Denom().Uint64()
		if times(want, b.m.find(id).weight).Cmp(big.NewRat(1, 1)) > 0 {
			b.t.Fatalf("the model's lead of %d: %v behind %v", id, want, b.last)
		}
	}
	for i, r := range b.rings {
		gotNum, gotDen, ok := r.Lead(id)
		if gotNum != num || gotDen != den || ok != (want != nil) {
			b.t.Fatalf("limit %d: Lead(%d): %d/%d, %v; want %d/%d behind %v", limits[i], id, gotNum, gotDen, ok, num, den, b.last)
		}
	}
}

// checkLead holds a lead against the fraction that a test names; a den of 0 is none.
func (b *bench) checkLead(id int, num, den uint64) {
	b.t.Helper()
	for i, r := range b.rings {
		gotNum, gotDen, ok := r.Lead(id)
		if gotNum != num || gotDen != den || ok != (den > 0) {
			b.t.Errorf("limit %d: Lead(%d): %d/%d, %v; want %d/%d behind %v", limits[i], id, gotNum, gotDen, ok, num, den, b.last)
		}
	}
	b.lead(id)
}

// checkPicks holds the picks against those that a test names.
func (b *bench) checkPicks(want ...int) {
	b.t.Helper()
	for i, id := range want {
		if got := b.pick(); got != id {
			b.t.Errorf("pick %d of %v: %d", i, want, got)
		}
	}
}

// check holds all that can be told without a change.
func (b *bench) check() {
	b.t.Helper()
	members := b.m.members()
	for i, r := range b.rings {
		if got := r.Members(); !slices.Equal(got, members) {
			b.t.Fatalf("limit %d: Members: %v; want %v behind %v", limits[i], got, members, b.last)
		}
	}
	for _, x := range b.m.mates {
		b.lead(x.id)
	}
	b.lead(201)
	b.next()
}

// deep holds what only later calls tell: copies of the rings wake each member that is off, and have one more member of a great weight join, whose lead tells the floor.
func (b *bench) deep() {
	b.t.Helper()
	b.check()
	for _, x := range slices.Clone(b.m.mates) {
		if !x.on {
			f := b.fork()
			f.wake(x.id)
			f.check()
			f.picks(3)
			f.check()
		}
	}
	for _, id := range []int{1, 77, 200} {
		f := b.fork()
		f.join(id, 997)
		f.check()
		f.picks(5)
		f.check()
	}
	f := b.fork()
	f.picks(len(b.m.mates))
	f.check()
}

func TestExamples(t *testing.T) {
	b := newBench(t)
	b.join(1, 2)
	b.join(2, 1)
	b.checkPicks(1, 2, 1, 1, 2, 1)
	b.block(1)
	b.checkPicks(2)
	if b.wake(1) != api.OK || b.wake(1) != api.ErrState || b.join(2, 4) != api.ErrTwice {
		t.Error("example 2")
	}
	b.deep()
}

// TestNew holds P14.1 for New.
func TestNew(t *testing.T) {
	for _, limit := range []int{1 << 11, 1<<11 + 1, 1 << 12, 1<<32 + 5, 1<<40 - 1, 1 << 40} {
		r := newRing(t, limit)
		if id, ok := r.Next(); id != 0 || ok || len(r.Members()) != 0 {
			t.Error(limit, id, ok, r.Members())
		}
		if e := r.Join(7, 3); e != api.OK {
			t.Error(limit, e)
		}
	}
	for _, limit := range append(slices.Clone(farNumbers), 1, 200, 1000, 1<<11-1, 1<<41) {
		if r, e := ring.New(limit); r != nil || e != api.ErrArg {
			t.Errorf("New(%d): %v, %d; want ErrArg", limit, r, e)
		}
	}
}

// TestNobodyMadeIt: each call of a ring that is nil, or that New did not make.
func TestNobodyMadeIt(t *testing.T) {
	for _, r := range []*ring.Ring{nil, {}, new(ring.Ring)} {
		// Twice, for a call may not make it a ring either.
		for range 2 {
			for _, id := range []int{-1, 0, 1, 200, 201} {
				for _, w := range []int{-1, 0, 1, 1000, 1001} {
					if e := r.Join(id, w); e != api.ErrNil {
						t.Error("Join", id, w, e)
					}
					if e := r.Weigh(id, w); e != api.ErrNil {
						t.Error("Weigh", id, w, e)
					}
				}
				if r.Leave(id) != api.ErrNil || r.Block(id) != api.ErrNil || r.Wake(id) != api.ErrNil {
					t.Error("Leave, Block, Wake", id)
				}
				if num, den, ok := r.Lead(id); num != 0 || den != 0 || ok {
					t.Error("Lead", id, num, den, ok)
				}
			}
			if id, ok := r.Next(); id != 0 || ok {
				t.Error("Next", id, ok)
			}
			if id, ok := r.Pick(); id != 0 || ok {
				t.Error("Pick", id, ok)
			}
			if len(r.Members()) != 0 || r.Fork() != nil {
				t.Error("Members, Fork", r.Members(), r.Fork())
			}
		}
	}
}

func (b *bench) want(got, want api.Errno) {
	b.t.Helper()
	if got != want {
		b.t.Errorf("%d; want %d: %v", got, want, b.last)
	}
}

// TestJoinNumbers holds P14.1's errors of ids and weights, and their order.
func TestJoinNumbers(t *testing.T) {
	b := newBench(t)
	badIDs := append(slices.Clone(farNumbers), 201, 202, 1001, 1<<32+1)
	badWeights := append(slices.Clone(farNumbers), 1001, 1002, 1<<32+1)
	for _, id := range badIDs {
		b.want(b.join(id, 1), api.ErrID)
		for _, w := range badWeights {
			b.want(b.join(id, w), api.ErrID)
		}
	}
	for _, w := range badWeights {
		b.want(b.join(1, w), api.ErrWeight)
		b.want(b.join(200, w), api.ErrWeight)
	}
	b.deep()
	b.want(b.join(1, 1), api.OK)
	b.want(b.join(200, 1000), api.OK)
	b.want(b.join(2, 1000), api.OK)
	b.want(b.join(199, 1), api.OK)
	b.picks(1500)
	b.want(b.block(2), api.OK)
	for _, id := range []int{1, 2, 199, 200} {
		b.want(b.join(id, 1), api.ErrTwice)
		b.want(b.join(id, 1000), api.ErrTwice)
		for _, w := range badWeights {
			b.want(b.join(id, w), api.ErrWeight)
		}
	}
	b.deep()
}

// TestJoinTable holds P14.1's 32 members.
func TestJoinTable(t *testing.T) {
	b := newBench(t)
	for i := range 32 {
		b.want(b.join(200-6*i, 1+31*i), api.OK)
		b.check()
	}
	b.picks(50)
	full := func() {
		t.Helper()
		b.want(b.join(1, 5), api.ErrTable)
		b.want(b.join(199, 1000), api.ErrTable)
		b.want(b.join(200, 5), api.ErrTwice)
		b.want(b.join(14, 1), api.ErrTwice)
		b.want(b.join(0, 5), api.ErrID)
		b.want(b.join(201, 5), api.ErrID)
		b.want(b.join(1, 0), api.ErrWeight)
		b.want(b.join(200, 1001), api.ErrWeight)
		b.check()
	}
	full()
	// Who is off is a member too.
	b.want(b.block(14), api.OK)
	b.want(b.block(200), api.OK)
	full()
	b.want(b.leave(200), api.OK)
	b.want(b.join(199, 1000), api.OK)
	b.want(b.join(200, 1), api.ErrTable)
	b.want(b.leave(14), api.OK)
	b.want(b.join(14, 3), api.OK)
	b.want(b.join(1, 3), api.ErrTable)
	b.check()
	b.picks(3000)
	b.check()
}

// TestJoinCount holds the count of a member that joins: floors that are 0, whole, and not whole.
func TestJoinCount(t *testing.T) {
	b := newBench(t)
	b.want(b.join(9, 3), api.OK)
	b.want(b.join(5, 1000), api.OK)
	b.checkLead(5, 0, 1)
	b.checkLead(9, 0, 1)
	b.checkPicks(5, 9)
	b.want(b.leave(5), api.OK)
	// The floor is 1/3: 1 of 1, 1 of 2, 1 of 3, 2 of 4, 334 of 1000.
	b.want(b.join(11, 1), api.OK)
	b.checkLead(11, 2, 3)
	b.want(b.join(12, 2), api.OK)
	b.checkLead(12, 1, 6)
	b.want(b.join(13, 3), api.OK)
	b.checkLead(13, 0, 1)
	b.want(b.join(14, 4), api.OK)
	b.checkLead(14, 1, 6)
	b.want(b.join(15, 1000), api.OK)
	b.checkLead(15, 1, 1500)
	b.want(b.join(16, 999), api.OK)
	b.checkLead(16, 0, 1)
	b.deep()
	for _, id := range []int{11, 12, 13, 14, 15, 16} {
		b.want(b.leave(id), api.OK)
	}
	b.checkPicks(9, 9)
	// The floor is 1.
	for w := 1; w <= 31; w++ {
		b.want(b.join(100+w, w*w), api.OK)
		b.checkLead(100+w, 0, 1)
	}
	b.deep()
}

// TestLeave holds P14.1 for Leave.
func TestLeave(t *testing.T) {
	b := newBench(t)
	b.want(b.leave(1), api.ErrNone)
	for i, id := range []int{3, 1, 2} {
		b.want(b.join(id, i+1), api.OK)
	}
	b.picks(4)
	b.want(b.block(2), api.OK)
	for _, id := range append(slices.Clone(farNumbers), 4, 200, 201, 1<<32+1) {
		b.want(b.leave(id), api.ErrNone)
	}
	b.deep()
	b.want(b.leave(2), api.OK)
	b.want(b.leave(2), api.ErrNone)
	b.deep()
	b.want(b.leave(1), api.OK)
	b.deep()
	b.want(b.leave(3), api.OK)
	b.want(b.leave(3), api.ErrNone)
	b.deep()
	// Who joins again has nothing left of before.
	b.want(b.join(3, 7), api.OK)
	b.want(b.join(2, 1), api.OK)
	b.deep()
}

// TestNoMember holds ErrNone of Block, Wake and Weigh, and that it comes first.
func TestNoMember(t *testing.T) {
	b := newBench(t)
	none := func(ids ...int) {
		t.Helper()
		for _, id := range ids {
			b.want(b.block(id), api.ErrNone)
			b.want(b.wake(id), api.ErrNone)
			b.want(b.weigh(id, 1), api.ErrNone)
			b.want(b.weigh(id, 0), api.ErrNone)
			b.want(b.weigh(id, 1001), api.ErrNone)
			b.want(b.weigh(id, math.MinInt), api.ErrNone)
			b.checkLead(id, 0, 0)
		}
	}
	none(append(slices.Clone(farNumbers), 1, 2, 200, 201)...)
	b.want(b.join(1, 5), api.OK)
	b.want(b.join(200, 9), api.OK)
	b.picks(20)
	none(append(slices.Clone(farNumbers), 2, 199, 201, 1<<32+1, 1<<32+200)...)
	b.want(b.block(1), api.OK)
	none(2, 199)
	b.want(b.leave(1), api.OK)
	none(1)
	b.deep()
}

// TestStates holds ErrState of Block and Wake.
func TestStates(t *testing.T) {
	b := newBench(t)
	b.want(b.join(4, 10), api.OK)
	b.want(b.join(6, 1), api.OK)
	b.picks(7)
	for _, id := range []int{4, 6} {
		b.want(b.wake(id), api.ErrState)
		b.deep()
		b.want(b.block(id), api.OK)
		b.deep()
		b.want(b.block(id), api.ErrState)
		b.deep()
	}
	for _, id := range []int{4, 6} {
		b.want(b.block(id), api.ErrState)
		b.want(b.wake(id), api.OK)
		b.want(b.wake(id), api.ErrState)
		b.deep()
	}
}

// TestWeighNumbers holds ErrWeight of Weigh, for a member that is on and one that is off.
func TestWeighNumbers(t *testing.T) {
	b := newBench(t)
	b.want(b.join(4, 10), api.OK)
	b.want(b.join(6, 1), api.OK)
	b.picks(7)
	b.want(b.block(6), api.OK)
	for _, w := range append(slices.Clone(farNumbers), 1001, 1<<32+1) {
		b.want(b.weigh(4, w), api.ErrWeight)
		b.want(b.weigh(6, w), api.ErrWeight)
	}
	b.deep()
	for _, w := range []int{1, 1000, 2, 999} {
		b.want(b.weigh(4, w), api.OK)
		b.want(b.weigh(6, w), api.OK)
		b.deep()
	}
}

// TestWakeClamps holds the clamp of Wake: a count below both bounds, between them, and above.
func TestWakeClamps(t *testing.T) {
	below := newBench(t)
	below.want(below.join(1, 3), api.OK)
	below.want(below.join(2, 2), api.OK)
	below.want(below.block(2), api.OK)
	below.picks(4)
	// The floor is 4/3, and the count 0 becomes 3.
	below.want(below.wake(2), api.OK)
	below.checkLead(2, 1, 6)
	below.deep()

	between := newBench(t)
	between.want(between.join(1, 3), api.OK)
	between.want(between.join(2, 2), api.OK)
	between.checkPicks(1, 2, 1, 2, 1)
	between.want(between.block(2), api.OK)
	// The floor is 3/3: the count 2 is the lower bound, and stays.
	between.want(between.wake(2), api.OK)
	between.checkLead(2, 0, 1)
	between.checkPicks(1, 2)
	between.want(between.block(2), api.OK)
	// The floor is 4/3: the count 3 is both bounds.
	between.want(between.wake(2), api.OK)
	between.checkLead(2, 1, 6)
	between.deep()

	stays := newBench(t)
	stays.want(stays.join(1, 2), api.OK)
	stays.want(stays.join(2, 1), api.OK)
	stays.checkPicks(1, 2, 1)
	stays.want(stays.join(3, 2), api.OK)
	stays.checkPicks(1, 2)
	stays.want(stays.block(2), api.OK)
	// The floor is 1, and the count 2 the upper bound of weight 1.
	stays.want(stays.wake(2), api.OK)
	stays.checkLead(2, 1, 1)
	stays.deep()

	above := newBench(t)
	above.want(above.join(1, 1), api.OK)
	above.want(above.join(2, 1), api.OK)
	above.checkPicks(1)
	above.want(above.block(1), api.OK)
	above.want(above.weigh(1, 1000), api.OK)
	// The floor is 0, and the count 1000 becomes 1.
	above.want(above.wake(1), api.OK)
	above.checkLead(1, 1, 1000)
	above.deep()
	above.want(above.block(1), api.OK)
	above.checkPicks(2)
	above.want(above.weigh(2, 7), api.OK)
	above.checkPicks(2)
	// The floor is 8/7, which 1000 times is 1142 and 6/7.
	above.want(above.wake(1), api.OK)
	above.checkLead(1, 1, 7000)
	above.deep()
}

// TestWeighOn holds Weigh of members that are on.
func TestWeighOn(t *testing.T) {
	for _, w := range []int{1, 2, 3, 4, 5, 6, 7, 12, 100, 999, 1000} {
		for n := range 14 {
			for _, id := range []int{1, 2, 3} {
				b := newBench(t)
				b.join(1, 4)
				b.join(2, 3)
				b.join(3, 1)
				b.picks(n)
				b.want(b.weigh(id, w), api.OK)
				b.check()
				b.picks(12)
				b.check()
			}
		}
	}
	b := newBench(t)
	b.want(b.join(1, 1), api.OK)
	b.want(b.join(2, 1), api.OK)
	b.checkPicks(1)
	// The lead is 1, so that it is clamped: with a floor of 0, to 1 of 5.
	b.want(b.weigh(1, 5), api.OK)
	b.checkLead(1, 1, 5)
	// The same weight leaves the count; a smaller one that needs no clamp rounds up.
	b.want(b.weigh(1, 5), api.OK)
	b.checkLead(1, 1, 5)
	b.want(b.weigh(1, 2), api.OK)
	b.checkLead(1, 1, 2)
	b.want(b.weigh(1, 3), api.OK)
	b.checkLead(1, 1, 3)
	b.deep()
}

// TestWeighLeast holds Weigh of the member that alone has the least pass: it is clamped with the floor as it was, and the floor may rise.
func TestWeighLeast(t *testing.T) {
	b := newBench(t)
	b.want(b.join(1, 3), api.OK)
	b.want(b.join(2, 2), api.OK)
	b.checkPicks(1, 2, 1, 2)
	// 2/3 and 2/2.
	b.checkLead(1, 0, 1)
	b.checkLead(2, 1, 3)
	b.want(b.weigh(1, 2), api.OK)
	// 2/3 times 2 is 4/3, so the count is 2, and both passes are 1.
	b.checkLead(1, 0, 1)
	b.checkLead(2, 0, 1)
	b.deep()
	b.want(b.weigh(1, 1000), api.OK)
	b.checkPicks(1, 2, 1, 1)
	b.want(b.weigh(1, 1), api.OK)
	// 1003/1000 becomes 2/1, so that the floor is the other's 3/2.
	b.checkLead(1, 1, 2)
	b.checkLead(2, 0, 1)
	b.deep()

	one := newBench(t)
	one.want(one.join(8, 7), api.OK)
	one.picks(3)
	// 3/7 becomes 1/1, and the floor with it.
	one.want(one.weigh(8, 1), api.OK)
	one.checkLead(8, 0, 1)
	one.want(one.join(9, 10), api.OK)
	one.checkLead(9, 0, 1)
	one.checkPicks(8)
	one.checkLead(8, 1, 1)
	one.deep()
}

// TestWeighOff holds Weigh of a member that is off: no clamp until it is woken.
func TestWeighOff(t *testing.T) {
	b := newBench(t)
	b.want(b.join(1, 2), api.OK)
	b.want(b.join(2, 1), api.OK)
	b.want(b.join(3, 1), api.OK)
	b.checkPicks(1, 2)
	b.want(b.block(2), api.OK)
	b.want(b.block(1), api.OK)
	// 1/2 becomes 1/1, and that 5/5.
	b.want(b.weigh(1, 1), api.OK)
	b.want(b.weigh(1, 5), api.OK)
	b.want(b.weigh(2, 3), api.OK)
	b.want(b.weigh(2, 3), api.OK)
	b.deep()
	b.checkPicks(3, 3)
	b.want(b.join(4, 1), api.OK)
	b.want(b.leave(3), api.OK)
	b.deep()
	b.want(b.wake(1), api.OK)
	b.want(b.wake(2), api.OK)
	b.checkLead(1, 0, 1)
	b.checkLead(2, 0, 1)

	// A clamp at once would leave 1 of 1000, and 2 of 1 then; the count stays 1000 of 1000, which is 1 of 1.
	late := newBench(t)
	late.want(late.join(1, 1), api.OK)
	late.want(late.join(2, 2), api.OK)
	late.checkPicks(1, 2)
	late.want(late.block(1), api.OK)
	late.want(late.weigh(1, 1000), api.OK)
	late.checkPicks(2)
	late.want(late.wake(1), api.OK)
	late.checkLead(1, 0, 1)
	late.deep()

	// Many weights one behind the other, each rounded up.
	many := newBench(t)
	many.want(many.join(1, 7), api.OK)
	many.want(many.join(2, 1), api.OK)
	many.picks(2)
	many.want(many.block(1), api.OK)
	for i := range 60 {
		many.want(many.weigh(1, 1+(i*i*i*41)%1000), api.OK)
		if i%5 == 0 {
			many.deep()
		}
	}
	many.picks(1)
	many.deep()
}

// TestFloorOfNobody holds the floor while none is on, and what Join, Wake and Weigh make of it.
func TestFloorOfNobody(t *testing.T) {
	// Nobody has ever been on: 0.
	b := newBench(t)
	b.checkPicks(0, 0)
	b.deep()
	b.want(b.join(1, 3), api.OK)
	b.checkLead(1, 0, 1)
	b.picks(4)

	// The last one is turned off at 4/3.
	off := b.fork()
	off.want(off.block(1), api.OK)
	off.deep()
	off.checkPicks(0)
	// Its weight may change, but not the floor: 4/3 becomes 2/1, and 4/3 stays for who joins.
	off.want(off.weigh(1, 1), api.OK)
	off.deep()
	joins := off.fork()
	joins.want(joins.join(2, 6), api.OK)
	joins.want(joins.wake(1), api.OK)
	joins.checkLead(2, 0, 1)
	joins.checkLead(1, 2, 3)
	joins.deep()
	wakes := off.fork()
	wakes.want(wakes.wake(1), api.OK)
	wakes.checkLead(1, 0, 1)
	wakes.want(wakes.join(2, 6), api.OK)
	// The floor is 2 now.
	wakes.checkPicks(1, 2)
	wakes.checkLead(2, 0, 1)
	wakes.checkLead(1, 5, 6)
	wakes.deep()
	clamps := off.fork()
	clamps.want(clamps.weigh(1, 1000), api.OK)
	clamps.want(clamps.wake(1), api.OK)
	clamps.want(clamps.join(2, 3), api.OK)
	// The count 2000 was clamped to 1334, and 1.334 times 3 is 5 at most.
	clamps.checkLead(2, 499, 1500)
	clamps.checkLead(1, 0, 1)
	clamps.deep()

	// The last one is removed at 4/3.
	gone := b.fork()
	gone.want(gone.leave(1), api.OK)
	gone.deep()
	gone.want(gone.join(2, 2), api.OK)
	gone.want(gone.join(3, 1), api.OK)
	gone.checkLead(2, 0, 1)
	gone.checkLead(3, 1, 2)
	gone.deep()
}

// TestFloorOfTheLast: of several, it is the floor right ahead of the call that turns the last one off, whoever is called behind it.
func TestFloorOfTheLast(t *testing.T) {
	b := newBench(t)
	b.want(b.join(1, 1), api.OK)
	b.want(b.join(2, 3), api.OK)
	b.want(b.join(3, 5), api.OK)
	b.checkPicks(1, 2, 3, 3)
	// 1/1, 1/3 and 2/5: turned off in their order, the last one is the third; or it is the first.
	third := b.fork()
	third.want(third.block(1), api.OK)
	third.want(third.block(2), api.OK)
	third.deep()
	third.want(third.block(3), api.OK)
	third.deep()
	third.want(third.join(4, 10), api.OK)
	third.want(third.wake(2), api.OK)
	third.checkLead(4, 0, 1)
	third.checkLead(2, 4, 15)

	first := b.fork()
	first.want(first.block(2), api.OK)
	first.want(first.leave(3), api.OK)
	first.deep()
	first.want(first.leave(1), api.OK)
	first.deep()
	// Who is off and leaves does not change it.
	off := first.fork()
	off.want(off.leave(2), api.OK)
	off.deep()
	off.want(off.join(9, 7), api.OK)
	off.checkLead(9, 0, 1)
	off.deep()
	// Who is woken gives the ring a floor that is another's later.
	first.want(first.wake(2), api.OK)
	first.checkPicks(2)
	first.want(first.weigh(2, 4), api.OK)
	first.want(first.block(2), api.OK)
	first.deep()
	first.want(first.join(5, 12), api.OK)
	first.want(first.leave(5), api.OK)
	first.deep()
	first.want(first.leave(2), api.OK)
	first.deep()
	first.want(first.join(6, 1), api.OK)
	first.want(first.join(7, 12), api.OK)
	first.deep()
}

// TestNextAndPick holds P14.3: nobody on, one, and equal passes.
func TestNextAndPick(t *testing.T) {
	b := newBench(t)
	b.checkPicks(0)
	b.want(b.join(50, 4), api.OK)
	b.check()
	b.checkPicks(50, 50, 50)
	b.want(b.block(50), api.OK)
	b.next()
	b.checkPicks(0, 0)
	b.want(b.wake(50), api.OK)
	b.checkPicks(50)
	// All at 1: the least id first, in whatever order they joined.
	b.want(b.join(3, 4), api.OK)
	b.want(b.join(200, 4), api.OK)
	b.want(b.join(1, 4), api.OK)
	b.want(b.join(17, 4), api.OK)
	b.check()
	b.checkPicks(1, 3, 17, 50, 200, 1, 3, 17, 50, 200)
	// Equal passes of unequal weights: 2/4 and 3/6 above.
	b.want(b.weigh(1, 6), api.OK)
	b.want(b.weigh(200, 2), api.OK)
	b.check()
	b.checkPicks(1, 3, 17, 50, 200)
	b.deep()
	b.want(b.block(1), api.OK)
	b.want(b.block(3), api.OK)
	for range 12 {
		if id := b.pick(); id == 1 || id == 3 {
			t.Error("picked, and off:", id)
		}
	}
	b.deep()
	// Next alone changes nothing: a ring that was asked often picks like one that was not.
	asked, other := newRing(t, 2048), newRing(t, 2048)
	for i := 1; i <= 4; i++ {
		asked.Join(i, i)
		other.Join(i, i)
	}
	for range 3000 {
		want, _ := asked.Next()
		for range 3 {
			asked.Next()
		}
		a, _ := asked.Pick()
		if o, _ := other.Pick(); a != o || a != want {
			t.Fatal(a, o, want)
		}
	}
}

// TestLead holds P14.4 for Lead.
func TestLead(t *testing.T) {
	b := newBench(t)
	b.checkLead(1, 0, 0)
	b.want(b.join(1, 6), api.OK)
	b.want(b.join(2, 4), api.OK)
	b.want(b.join(3, 10), api.OK)
	b.checkLead(1, 0, 1)
	b.checkPicks(1, 2, 3)
	// 1/6, 1/4 and 1/10.
	b.checkLead(1, 1, 15)
	b.checkLead(2, 3, 20)
	b.checkLead(3, 0, 1)
	b.checkPicks(3)
	// 1/6 is least.
	b.checkLead(1, 0, 1)
	b.checkLead(2, 1, 12)
	b.checkLead(3, 1, 30)
	b.want(b.block(1), api.OK)
	b.checkLead(1, 0, 0)
	b.checkLead(2, 1, 20)
	b.checkLead(3, 0, 1)
	b.want(b.block(3), api.OK)
	b.want(b.block(2), api.OK)
	for _, id := range append(slices.Clone(farNumbers), 1, 2, 3, 4, 201) {
		b.checkLead(id, 0, 0)
	}
}

// TestMembers holds P14.4 for Members.
func TestMembers(t *testing.T) {
	r := newRing(t, 4096)
	if got := r.Members(); len(got) != 0 {
		t.Error(got)
	}
	for i, id := range []int{7, 200, 1, 100, 8} {
		r.Join(id, i+1)
	}
	r.Block(200)
	r.Block(8)
	r.Weigh(8, 1000)
	want := []ring.Member{{1, 3, true}, {7, 1, true}, {8, 1000, false}, {100, 4, true}, {200, 2, false}}
	got := r.Members()
	if !slices.Equal(got, want) {
		t.Error(got)
	}
	// It is memory of its own.
	again := r.Members()
	for i := range got {
		got[i] = ring.Member{ID: 99, Weight: 99}
	}
	got = append(got[:2], ring.Member{ID: 5})
	if !slices.Equal(again, want) || !slices.Equal(r.Members(), want) {
		t.Error(again, r.Members())
	}
	more := r.Members()
	more = more[:cap(more)]
	for i := range more {
		more[i] = ring.Member{}
	}
	r.Leave(7)
	r.Wake(200)
	want = []ring.Member{{1, 3, true}, {8, 1000, false}, {100, 4, true}, {200, 2, true}}
	if !slices.Equal(r.Members(), want) || len(again) != 5 || again[1].ID != 7 || again[4].On {
		t.Error(r.Members(), again)
	}
}

// TestFork holds P14.4 for Fork: calls of the ring and of the copy do not touch each other.
func TestFork(t *testing.T) {
	empty := newBench(t)
	f := empty.fork()
	f.want(f.join(1, 2), api.OK)
	f.picks(5)
	empty.deep()
	empty.want(empty.join(4, 2), api.OK)
	f.deep()

	rng := rand.New(rand.NewSource(14))
	b := newBench(t)
	for i := 1; i <= 9; i++ {
		b.want(b.join(5*i, 1+rng.Intn(12)), api.OK)
	}
	b.picks(30)
	b.want(b.block(10), api.OK)
	b.want(b.block(45), api.OK)
	all := []*bench{b}
	for round := range 40 {
		x := all[rng.Intn(len(all))]
		x.any(rng, 50, 12)
		if round%8 == 0 {
			all = append(all, x.fork())
		}
		for _, y := range all {
			y.check()
		}
	}
	// A copy keeps the floor while none is on.
	for _, x := range b.m.members() {
		if x.On {
			b.want(b.block(x.ID), api.OK)
		}
	}
	f = b.fork()
	f.deep()
	f.want(f.join(199, 1000), api.OK)
	b.deep()
}

// any has the bench do any one call, mostly one that is answered with OK.
func (b *bench) any(rng *rand.Rand, ids, weights int) {
	b.t.Helper()
	id, w := 1+rng.Intn(ids), 1+rng.Intn(weights)
	if n := len(b.m.mates); n > 0 && rng.Intn(4) > 0 {
		id = b.m.mates[rng.Intn(n)].id
	}
	if rng.Intn(25) == 0 {
		w = []int{0, -1, 1000, 1001, 1}[rng.Intn(5)]
	}
	switch rng.Intn(14) {
	case 0, 1:
		b.join(1+rng.Intn(ids), w)
	case 2:
		b.leave(id)
	case 3, 4:
		b.block(id)
	case 5, 6:
		b.wake(id)
	case 7, 8:
		b.weigh(id, w)
	default:
		b.picks(1 + rng.Intn(4))
	}
}

// TestAnyCalls holds all promises for many calls of all kinds; P14.5 for the leads of each step.
func TestAnyCalls(t *testing.T) {
	for seed := range int64(200) {
		rng := rand.New(rand.NewSource(seed))
		b := newBench(t)
		ids := []int{2, 4, 12, 60, 200}[seed%5]
		weights := []int{3, 12, 100, 1000}[seed%4]
		for step := range 150 {
			b.any(rng, ids, weights)
			b.check()
			if step%25 == 0 {
				b.deep()
			}
		}
	}
}

// TestNobodyOften: few members, which are off often, so that the floor is that of nobody.
func TestNobodyOften(t *testing.T) {
	for seed := range int64(150) {
		rng := rand.New(rand.NewSource(1000 + seed))
		b := newBench(t)
		for step := range 120 {
			id, w := 1+rng.Intn(3), 1+rng.Intn(9)
			switch rng.Intn(8) {
			case 0:
				b.join(id, w)
			case 1:
				b.leave(id)
			case 2, 3:
				b.block(id)
			case 4:
				b.wake(id)
			case 5:
				b.weigh(id, w)
			default:
				b.picks(rng.Intn(7))
			}
			b.check()
			if step%10 == 0 {
				b.deep()
			}
		}
	}
}

// TestRebase holds P14.8 where counts reach the smallest limit often, with members off meanwhile: behind the floor, above it, and weighed while they are off.
func TestRebase(t *testing.T) {
	for _, weights := range [][]int{{1, 1, 1}, {1, 1000, 3}, {1000, 999, 998}, {7, 11, 1000}, {2, 2, 1}} {
		b := newBench(t)
		for i, w := range weights {
			b.want(b.join(i+1, w), api.OK)
		}
		// Right at the limits of the first three rings.
		for range 6200 {
			b.pick()
		}
		b.deep()
		b.want(b.block(1), api.OK)
		for range 2100 {
			b.pick()
		}
		b.deep()
		b.want(b.weigh(1, 13), api.OK)
		b.want(b.join(9, 5), api.OK)
		b.want(b.block(9), api.OK)
		b.picks(4200)
		b.deep()
		b.want(b.weigh(9, 4), api.OK)
		b.want(b.weigh(1, 17), api.OK)
		b.picks(700)
		b.want(b.wake(9), api.OK)
		b.deep()
		b.want(b.wake(1), api.OK)
		b.picks(30)
		b.deep()
		for _, x := range b.m.members() {
			b.want(b.block(x.ID), api.OK)
		}
		b.deep()
		b.want(b.leave(2), api.OK)
		b.want(b.wake(3), api.OK)
		b.picks(2500)
		b.deep()
	}
}

// TestRebaseAtOnce: a ring of one member, pick by pick at the limit, for each weight that leaves the floor another part.
func TestRebaseAtOnce(t *testing.T) {
	for _, w := range []int{1, 2, 3, 7, 1000} {
		b := newBench(t)
		b.want(b.join(20, w), api.OK)
		b.want(b.join(30, 3), api.OK)
		b.want(b.block(30), api.OK)
		b.picks(2045)
		for range 5 {
			b.pick()
			b.deep()
		}
		b.want(b.wake(30), api.OK)
		b.deep()
		b.picks(2100)
		b.deep()
	}
}

// shares has a ring of some members behind any calls, and who is on in it by the members.
func shares(t *testing.T, rng *rand.Rand) (*bench, []ring.Member, int) {
	b := newBench(t)
	weights := []int{3, 10, 1000}[rng.Intn(3)]
	for range 60 {
		b.any(rng, 30, weights)
	}
	var on []ring.Member
	sum := 0
	for _, x := range b.m.members() {
		if x.On {
			on = append(on, x)
			sum += x.Weight
		}
	}
	return b, on, sum
}

// TestProportion holds P14.6: of each row of picks, behind any calls.
func TestProportion(t *testing.T) {
	for seed := range int64(120) {
		rng := rand.New(rand.NewSource(200 + seed))
		b, on, sum := shares(t, rng)
		if len(on) == 0 {
			continue
		}
		r := b.rings[int(seed)%len(b.rings)]
		const length = 260
		// had has how often each was picked in the first picks.
		had := [][]int{make([]int, len(on))}
		for range length {
			id, _ := r.Pick()
			now := slices.Clone(had[len(had)-1])
			at := slices.IndexFunc(on, func(x ring.Member) bool { return x.ID == id })
			if at < 0 {
				t.Fatal("picked, and not on:", id)
			}
			now[at]++
			had = append(had, now)
		}
		for from := range length {
			for to := from; to <= length; to++ {
				for i, x := range on {
					differ := (had[to][i]-had[from][i])*sum - x.Weight*(to-from)
					if max(differ, -differ) > (len(on)-1)*sum {
						t.Fatal("seed", seed, "from", from, "to", to, x, differ)
					}
				}
			}
		}
	}
}

// starves tells whether some member waits longer than P14.7 says, in that many picks.
func starves(t *testing.T, r *ring.Ring, on []ring.Member, sum, picks int) {
	t.Helper()
	last := map[int]int{}
	for i := 1; i <= picks; i++ {
		id, _ := r.Pick()
		last[id] = i
		for _, x := range on {
			if most := (len(on)-1)*sum/x.Weight + 1; i-last[x.ID] >= most {
				t.Fatalf("%v waits for %d picks; sum %d of %d", x, most, sum, len(on))
			}
		}
	}
}

// TestNoStarvation holds P14.7, behind any calls, and where the weights differ most.
func TestNoStarvation(t *testing.T) {
	for seed := range int64(60) {
		b, on, sum := shares(t, rand.New(rand.NewSource(500+seed)))
		if len(on) > 0 {
			starves(t, b.rings[int(seed)%len(b.rings)], on, sum, 20000)
		}
	}
	r := newRing(t, 1<<11)
	r.Join(1, 1)
	r.Join(2, 1000)
	r.Join(3, 1000)
	starves(t, r, r.Members(), 2001, 30000)
	// Whoever is blocked and woken as often as can be does not wait longer behind it.
	for range 50 {
		r.Pick()
		r.Block(1)
		r.Pick()
		r.Wake(1)
		r.Weigh(2, 999)
		r.Weigh(2, 1000)
	}
	starves(t, r, r.Members(), 2001, 30000)
}

// TestLeads holds P14.5 word by word, by what Lead answers, behind calls that push leads up.
func TestLeads(t *testing.T) {
	rng := rand.New(rand.NewSource(77))
	for range 40 {
		r := newRing(t, 1<<11)
		for range 300 {
			id, w := 1+rng.Intn(12), 1+rng.Intn(1000)
			switch rng.Intn(7) {
			case 0:
				r.Join(id, w)
			case 1:
				r.Block(id)
			case 2:
				r.Wake(id)
			case 3:
				r.Weigh(id, w)
			case 4:
				r.Leave(rng.Intn(40))
			default:
				r.Pick()
			}
			for _, x := range r.Members() {
				num, den, ok := r.Lead(x.ID)
				if ok != x.On || ok && num*uint64(x.Weight) > den {
					t.Fatal(x, num, den, ok)
				}
			}
		}
	}
}

// TestLimits holds P14.8 for many picks: rings of all limits pick the same.
func TestLimits(t *testing.T) {
	var rings []*ring.Ring
	for _, limit := range []int{1 << 11, 1<<11 + 1, 5000, 1 << 20, 1<<40 - 1, 1 << 40} {
		r := newRing(t, limit)
		rings = append(rings, r)
		for i, w := range []int{1, 1000, 7, 333, 12, 12} {
			r.Join(i+1, w)
		}
		r.Block(5)
	}
	same := func(i int) {
		t.Helper()
		want, _ := rings[0].Pick()
		for _, r := range rings[1:] {
			if id, ok := r.Pick(); id != want || !ok {
				t.Fatal("pick", i, id, ok, want)
			}
		}
	}
	for i := range 400000 {
		same(i)
		if i%60000 == 59999 {
			for _, r := range rings {
				if i%120000 == 59999 {
					r.Wake(5)
				} else {
					r.Block(5)
				}
			}
		}
		if i%10000 == 0 {
			for id := 1; id <= 6; id++ {
				num, den, ok := rings[0].Lead(id)
				for _, r := range rings[1:] {
					if n, d, o := r.Lead(id); n != num || d != den || o != ok {
						t.Fatal("lead", i, id, n, d, o)
					}
				}
			}
		}
	}
}

// TestSeparate: rings share nothing.
func TestSeparate(t *testing.T) {
	a, b := newBench(t), newBench(t)
	for i := 1; i <= 5; i++ {
		a.want(a.join(i, i), api.OK)
	}
	b.want(b.join(3, 9), api.OK)
	a.picks(40)
	b.deep()
	b.picks(3)
	a.want(a.leave(3), api.OK)
	b.deep()
	a.deep()
}
