package ring

import (
	"math/rand"
	"testing"

	"dogwatch/api"
)

// TestCountsStayBelowTheLimit holds what no result tells: the count of a member that was picked never remains as great as the limit.
func TestCountsStayBelowTheLimit(t *testing.T) {
	for _, limit := range []int{api.MinRebase, api.MinRebase + 1, 10000} {
		rng := rand.New(rand.NewSource(int64(limit)))
		r, e := New(limit)
		if e != api.OK {
			t.Fatal(e)
		}
		for i := range 32 {
			r.Join(1+i, 1+rng.Intn(1000))
		}
		for range 200000 {
			id := 1 + rng.Intn(32)
			switch rng.Intn(40) {
			case 0:
				r.Block(id)
			case 1:
				r.Wake(id)
			case 2:
				r.Weigh(id, []int{1, 2, 999, 1000, 1 + rng.Intn(1000)}[rng.Intn(5)])
			}
			if id, ok := r.Pick(); ok && r.members[r.find(id)].count >= uint64(limit) {
				t.Fatal(limit, id, r.members[r.find(id)].count)
			}
		}
	}
}

// TestFarPasses: at the greatest limit and the greatest weights, what is reckoned does not run over.
func TestFarPasses(t *testing.T) {
	near, _ := New(api.MinRebase)
	far, _ := New(api.MaxRebase)
	// The far ring stands as the near one would, had it been picked this often and never rebased.
	const whole = api.MaxRebase - 2
	far.last = pass{whole, 1}
	same := func() {
		t.Helper()
		for id := 1; id <= 4; id++ {
			num, den, ok := near.Lead(id)
			farNum, farDen, farOK := far.Lead(id)
			if num != farNum || den != farDen || ok != farOK {
				t.Error(id, num, den, ok, farNum, farDen, farOK)
			}
		}
	}
	for _, r := range []*Ring{near, far} {
		r.Join(1, 1000)
		r.Join(2, 999)
		r.Join(3, 1)
		r.Join(4, 997)
	}
	if far.members[0].count != whole*1000 {
		t.Error(far.members[0].count)
	}
	same()
	for i := range 5000 {
		id, _ := near.Pick()
		if farID, _ := far.Pick(); farID != id {
			t.Fatal(i, id, farID)
		}
		same()
		switch i % 50 {
		case 10:
			near.Block(2)
			far.Block(2)
		case 20:
			near.Weigh(2, 1000-i%31)
			far.Weigh(2, 1000-i%31)
		case 30:
			near.Wake(2)
			far.Wake(2)
		}
	}
}
