package appo_test

import (
	"math"
	"math/big"
	"math/rand"
	"slices"
	"testing"

	"dogwatch/api"
	"dogwatch/appo"
)

const maxTotal = 1 << 20

// repeated is a list of n equal numbers.
func repeated(n, number int) []int { return slices.Repeat([]int{number}, n) }

func sum(numbers []int) int {
	all := 0
	for _, n := range numbers {
		all += n
	}
	return all
}

// someWeights are valid, and now small, now great, with zeros among them.
func someWeights(r *rand.Rand) []int {
	limit := []int{1, 2, 3, 10, 100, api.MaxWeight}[r.Intn(6)]
	weights := make([]int, 1+r.Intn([]int{1, 2, 5, 64}[r.Intn(4)]))
	for i := range weights {
		weights[i] = r.Intn(limit + 1)
	}
	weights[r.Intn(len(weights))] = 1 + r.Intn(limit)
	return weights
}

func someTotal(r *rand.Rand) int {
	return r.Intn([]int{1, 2, 20, 300, 70000, maxTotal}[r.Intn(6)] + 1)
}

// badWeights are each not valid, for one reason.
func badWeights() map[string][]int {
	return map[string][]int{
		"none":                    nil,
		"empty":                   {},
		"65":                      repeated(65, 1),
		"65, of which one counts": append(repeated(64, 0), 1),
		"1000 of them":            repeated(1000, 1),
		"one 0":                   {0},
		"zeros":                   {0, 0},
		"64 zeros":                repeated(64, 0),
		"1001":                    {1001},
		"1001 behind others":      {1, 2, 1001},
		"1001 before others":      {1001, 0, 1},
		"below 0":                 {-1},
		"below 0 behind others":   {3, 4, -1},
		"below 0 before others":   {-1, 4, 3},
		"zero in all":             {-5, 5},
		"far above":               {1, math.MaxInt},
		"far below":               {1, math.MinInt},
		"wrapping round":          {math.MaxInt, math.MaxInt, 3},
	}
}

// goodWeights are the edges of those that are valid.
func goodWeights() [][]int {
	return [][]int{
		{1}, {1000}, {0, 1}, {1, 0}, {0, 1000, 0}, {1000, 1000}, {1, 1000},
		repeated(64, 1), repeated(64, 1000), append(repeated(63, 0), 1), append([]int{1}, repeated(63, 0)...),
	}
}

// TestCheck holds P3.1.
func TestCheck(t *testing.T) {
	for _, weights := range goodWeights() {
		if e := appo.Check(weights...); e != api.OK {
			t.Errorf("Check(%v): %d", weights, e)
		}
	}
	for name, weights := range badWeights() {
		if e := appo.Check(weights...); e != api.ErrArg {
			t.Errorf("Check of %s: %d; want ErrArg", name, e)
		}
	}
	if e := appo.Check(); e != api.ErrArg {
		t.Errorf("Check(): %d; want ErrArg", e)
	}
	r := rand.New(rand.NewSource(1))
	for range 1000 {
		weights := someWeights(r)
		if e := appo.Check(weights...); e != api.OK {
			t.Errorf("Check(%v): %d", weights, e)
		}
	}
}

// TestWrongDivisions holds the errors of P3.2 and P3.3.
func TestWrongDivisions(t *testing.T) {
	for divider, divide := range map[string]func(int, ...int) ([]int, api.Errno){"Largest": appo.Largest, "Seats": appo.Seats} {
		for name, weights := range badWeights() {
			for _, total := range []int{0, 10, maxTotal, -1} {
				if list, e := divide(total, weights...); len(list) != 0 || e != api.ErrArg {
					t.Errorf("%s of %d by %s: %v, %d; want ErrArg", divider, total, name, list, e)
				}
			}
		}
		for _, weights := range goodWeights() {
			for _, total := range []int{-1, -2, math.MinInt, maxTotal + 1, math.MaxInt} {
				if list, e := divide(total, weights...); len(list) != 0 || e != api.ErrArg {
					t.Errorf("%s(%d, %v): %v, %d; want ErrArg", divider, total, weights, list, e)
				}
			}
			for _, total := range []int{0, 1, maxTotal} {
				if list, e := divide(total, weights...); len(list) != len(weights) || sum(list) != total || e != api.OK {
					t.Errorf("%s(%d, %v): %v, %d", divider, total, weights, list, e)
				}
			}
		}
	}
}

func TestKnownDivisions(t *testing.T) {
	type division struct {
		total                   int
		weights, largest, seats []int
	}
	for i, d := range []division{
		{10, []int{1, 1, 1}, []int{4, 3, 3}, []int{4, 3, 3}},
		{11, []int{1, 1, 1}, []int{4, 4, 3}, []int{4, 4, 3}},
		{10, []int{6, 3, 1}, []int{6, 3, 1}, []int{6, 3, 1}},
		{7, []int{5, 0, 2}, []int{5, 0, 2}, []int{5, 0, 2}},
		{0, []int{5, 0, 2}, []int{0, 0, 0}, []int{0, 0, 0}},
		{0, []int{1}, []int{0}, []int{0}},
		{1, []int{1, 1}, []int{1, 0}, []int{1, 0}},
		{1, []int{0, 1, 1}, []int{0, 1, 0}, []int{0, 1, 0}},
		{1, []int{1, 2}, []int{0, 1}, []int{0, 1}},
		// 1/1 and 2/2, and so 1/1 and 3/3, are equal: the first one goes first, whichever weight it has.
		{2, []int{1, 2}, []int{1, 1}, []int{1, 1}},
		{2, []int{2, 1}, []int{1, 1}, []int{2, 0}},
		{3, []int{1, 3}, []int{1, 2}, []int{1, 2}},
		{3, []int{3, 1}, []int{2, 1}, []int{3, 0}},
		// Equal rests beside a greater one that stands behind them.
		{3, []int{1, 1, 1, 2}, []int{1, 1, 0, 1}, []int{1, 1, 0, 1}},
		{4, []int{3, 3, 3, 5}, []int{1, 1, 1, 1}, []int{1, 1, 1, 1}},
		{2, []int{3, 3, 3, 5}, []int{1, 0, 0, 1}, []int{1, 0, 0, 1}},
		// One more of all takes one away by quotas, never by steps.
		{10, []int{6, 6, 2}, []int{4, 4, 2}, []int{5, 4, 1}},
		{11, []int{6, 6, 2}, []int{5, 5, 1}, []int{5, 5, 1}},
		// By steps a great weight may have more than its quota rounded up.
		{10, []int{80, 7, 7, 6}, []int{8, 1, 1, 0}, []int{10, 0, 0, 0}},
		{maxTotal, []int{1}, []int{maxTotal}, []int{maxTotal}},
		{maxTotal, []int{1000}, []int{maxTotal}, []int{maxTotal}},
		{maxTotal, []int{0, 1000, 0}, []int{0, maxTotal, 0}, []int{0, maxTotal, 0}},
		{maxTotal, []int{1, 1, 1}, []int{349526, 349525, 349525}, []int{349526, 349525, 349525}},
		{maxTotal, []int{1, 1000}, []int{1048, 1047528}, []int{1047, 1047529}},
		{maxTotal, repeated(64, 1000), repeated(64, maxTotal/64), repeated(64, maxTotal/64)},
		{maxTotal - 1, repeated(64, 999), append(repeated(63, maxTotal/64), maxTotal/64-1), append(repeated(63, maxTotal/64), maxTotal/64-1)},
		{63, repeated(64, 1), append(repeated(63, 1), 0), append(repeated(63, 1), 0)},
	} {
		if list, e := appo.Largest(d.total, d.weights...); e != api.OK || !slices.Equal(list, d.largest) {
			t.Errorf("%d: Largest(%d, %v): %v, %d; want %v", i, d.total, d.weights, list, e, d.largest)
		}
		if list, e := appo.Seats(d.total, d.weights...); e != api.OK || !slices.Equal(list, d.seats) {
			t.Errorf("%d: Seats(%d, %v): %v, %d; want %v", i, d.total, d.weights, list, e, d.seats)
		}
	}
}

// quota is an index's, exactly.
func quota(total int, weights []int, i int) *big.Rat {
	product := new(big.Int).Mul(big.NewInt(int64(total)), big.NewInt(int64(weights[i])))
	return new(big.Rat).SetFrac(product, big.NewInt(int64(sum(weights))))
}

// down is a fraction rounded down, and what that takes from it.
func down(f *big.Rat) (int, *big.Rat) {
	whole := new(big.Int).Quo(f.Num(), f.Denom())
	return int(whole.Int64()), new(big.Rat).Sub(f, new(big.Rat).SetInt(whole))
}

// byQuotas does what P3.2 says, word by word.
func byQuotas(total int, weights []int) []int {
	list, rests := make([]int, len(weights)), make([]*big.Rat, len(weights))
	for i := range weights {
		list[i], rests[i] = down(quota(total, weights, i))
	}
	had := make([]bool, len(weights))
	for sum(list) < total {
		best := -1
		for i := range list {
			if !had[i] && (best < 0 || rests[i].Cmp(rests[best]) > 0) {
				best = i
			}
		}
		had[best] = true
		list[best]++
	}
	return list
}

// TestLargest holds P3.2, and with it the conservation of P3.5 and the quotas of P3.6.
func TestLargest(t *testing.T) {
	check := func(total int, weights []int) {
		t.Helper()
		list, e := appo.Largest(total, weights...)
		if want := byQuotas(total, weights); e != api.OK || !slices.Equal(list, want) {
			t.Errorf("Largest(%d, %v): %v, %d; want %v", total, weights, list, e, want)
			return
		}
		if sum(list) != total {
			t.Errorf("Largest(%d, %v): %v is not all", total, weights, list)
		}
		for i, n := range list {
			whole, rest := down(quota(total, weights, i))
			if n != whole && (n != whole+1 || rest.Sign() == 0) {
				t.Errorf("Largest(%d, %v): %v, and the quota of %d is %v", total, weights, list, i, quota(total, weights, i))
			}
		}
	}
	for _, weights := range goodWeights() {
		for _, total := range []int{0, 1, 2, 3, 63, 64, 65, 999, maxTotal - 1, maxTotal} {
			check(total, weights)
		}
	}
	for total := range 100 {
		check(total, []int{1, 2, 3, 4, 3, 2, 1, 0, 5, 5})
	}
	r := rand.New(rand.NewSource(2))
	for range 2000 {
		check(someTotal(r), someWeights(r))
	}
}

func TestKnownNexts(t *testing.T) {
	const end = 1 << 40
	type next struct {
		weights, have []int
		i             int
		ok            bool
	}
	for i, n := range []next{
		{[]int{2, 1}, []int{1, 0}, 0, true},
		{[]int{1, 2}, []int{0, 1}, 0, true},
		{[]int{2, 1}, []int{2, 0}, 1, true},
		{[]int{1, 1, 1}, []int{0, 0, 0}, 0, true},
		{[]int{1, 1, 1}, []int{1, 0, 0}, 1, true},
		{[]int{1, 1, 1}, []int{1, 1, 0}, 2, true},
		// Equal fractions of unlike terms: the first one.
		{[]int{3, 2, 1}, []int{5, 3, 1}, 0, true},
		{[]int{1, 2, 3}, []int{1, 3, 5}, 0, true},
		{[]int{1, 1, 2, 3}, []int{2, 1, 3, 5}, 1, true},
		// Nobody.
		{nil, nil, 0, false},
		{[]int{}, []int{}, 0, false},
		{[]int{1}, nil, 0, false},
		{nil, []int{1}, 0, false},
		{[]int{0}, []int{0}, 0, false},
		{[]int{0, 0}, []int{1, 0}, 0, false},
		{[]int{-1}, []int{0}, 0, false},
		{[]int{1001}, []int{0}, 0, false},
		{[]int{1}, []int{-1}, 0, false},
		{[]int{1}, []int{end}, 0, false},
		{[]int{5, 0, 5, 1001, -3}, []int{-1, 3, end, 4, 1}, 0, false},
		// Lists of unlike length: only what is in both.
		{[]int{1, 1000}, []int{5}, 0, true},
		{[]int{0, 1000}, []int{5}, 0, false},
		{[]int{1}, []int{5, 0}, 0, true},
		{[]int{0, 3}, []int{5, 4, 0, 0}, 1, true},
		{[]int{1, 2, 1000, 1000}, []int{9, 0}, 1, true},
		// Weights that are ignored, before and behind others.
		{[]int{0, 1}, []int{0, 50}, 1, true},
		{[]int{1, 0}, []int{50, 0}, 0, true},
		{[]int{1001, 1}, []int{0, 50}, 1, true},
		{[]int{1, 1001}, []int{50, 0}, 0, true},
		{[]int{-1, 1}, []int{0, 50}, 1, true},
		{[]int{1, -1}, []int{50, 0}, 0, true},
		{[]int{-1, 0, 1001, 1}, []int{0, 0, 0, 7}, 3, true},
		{[]int{math.MaxInt, math.MinInt, 1}, []int{0, 0, 50}, 2, true},
		{[]int{1, math.MaxInt, math.MinInt}, []int{50, 0, 0}, 0, true},
		{[]int{999, 1000}, []int{0, 0}, 1, true},
		{[]int{1000, 1001}, []int{9, 0}, 0, true},
		// Haves that are ignored, before and behind others.
		{[]int{1, 1}, []int{-1, 50}, 1, true},
		{[]int{1, 1}, []int{50, -1}, 0, true},
		{[]int{1, 1}, []int{math.MinInt, 50}, 1, true},
		{[]int{1000, 1}, []int{end, end - 1}, 1, true},
		{[]int{1, 1000}, []int{end - 1, end}, 0, true},
		{[]int{1000, 1}, []int{end + 1, end - 1}, 1, true},
		{[]int{1000, 1}, []int{math.MaxInt, end - 1}, 1, true},
		{[]int{1, 1000}, []int{end - 1, math.MaxInt}, 0, true},
		// Great haves that count, held against each other without rounding.
		{[]int{1}, []int{end - 1}, 0, true},
		{[]int{1000}, []int{end - 1}, 0, true},
		{[]int{1, 1000}, []int{end - 1, end - 1}, 1, true},
		{[]int{1000, 1000}, []int{end - 1, end - 2}, 1, true},
		{[]int{1000, 1000}, []int{end - 2, end - 1}, 0, true},
		{[]int{500, 1000}, []int{end/2 - 1, end - 1}, 0, true},
		{[]int{500, 1000}, []int{end/2 - 1, end - 2}, 1, true},
		{[]int{500, 1000}, []int{end / 2, end - 1}, 1, true},
		{[]int{1000, 500}, []int{end - 1, end/2 - 1}, 0, true},
		{[]int{999, 1000}, []int{999*1000000 - 1, 1000*1000000 - 1}, 0, true},
		{[]int{999, 1000}, []int{999*1000000 - 1, 1000*1000000 - 2}, 1, true},
		{[]int{999, 1000}, []int{999 * 1000000, 1000*1000000 - 1}, 1, true},
		{[]int{1, 1000}, []int{maxTotal, 0}, 1, true},
		{[]int{1, 1}, []int{maxTotal, maxTotal + 1}, 0, true},
	} {
		if got, ok := appo.Next(n.weights, n.have); got != n.i || ok != n.ok {
			t.Errorf("%d: Next(%v, %v): %d, %v; want %d, %v", i, n.weights, n.have, got, ok, n.i, n.ok)
		}
	}
}

// bySteps is whom P3.3 names, by fractions of any length.
func bySteps(weights, have []int) (int, bool) {
	var least *big.Rat
	best := 0
	for i := 0; i < len(weights) && i < len(have); i++ {
		if weights[i] <= 0 || weights[i] > 1000 || have[i] < 0 || have[i] >= 1<<40 {
			continue
		}
		f := big.NewRat(int64(have[i])+1, int64(weights[i]))
		if least == nil || f.Cmp(least) < 0 {
			least, best = f, i
		}
	}
	return best, least != nil
}

// TestNext holds the first part of P3.3, for lists of any length with wrong numbers among them.
func TestNext(t *testing.T) {
	r := rand.New(rand.NewSource(3))
	pick := func(few []int, limit int) int {
		if r.Intn(4) == 0 {
			return few[r.Intn(len(few))]
		}
		return r.Intn(limit)
	}
	for range 20000 {
		weights, have := make([]int, r.Intn(8)), make([]int, r.Intn(8))
		weightLimit, haveLimit := []int{2, 5, 1001}[r.Intn(3)], []int{1, 4, 3000, 1 << 40}[r.Intn(4)]
		for i := range weights {
			weights[i] = pick([]int{-1, 0, 1, 999, 1000, 1001, math.MinInt, math.MaxInt}, weightLimit)
		}
		for i := range have {
			have[i] = pick([]int{-1, 0, 1, 1<<40 - 2, 1<<40 - 1, 1 << 40, 1<<40 + 1, math.MinInt, math.MaxInt}, haveLimit)
		}
		got, ok := appo.Next(weights, have)
		if want, wantOK := bySteps(weights, have); got != want || ok != wantOK {
			t.Errorf("Next(%v, %v): %d, %v; want %d, %v", weights, have, got, ok, want, wantOK)
		}
	}
	// More indices than weights may be elsewhere.
	long := repeated(200, 5)
	have := repeated(200, 7)
	have[150] = 6
	if got, ok := appo.Next(long, have); got != 150 || !ok {
		t.Errorf("Next of 200: %d, %v; want 150, true", got, ok)
	}
}

// TestSeatsByTurns holds the second part of P3.3 and, from total to total, P3.7: one more, and no one less.
func TestSeatsByTurns(t *testing.T) {
	check := func(last int, weights []int) {
		t.Helper()
		have := make([]int, len(weights))
		for total := 0; ; total++ {
			if list, e := appo.Seats(total, weights...); e != api.OK || !slices.Equal(list, have) {
				t.Errorf("Seats(%d, %v): %v, %d; want %v", total, weights, list, e, have)
				return
			}
			if total == last {
				return
			}
			i, ok := bySteps(weights, have)
			if named, found := appo.Next(weights, have); named != i || !ok || !found {
				t.Errorf("Next(%v, %v): %d, %v; want %d, %v", weights, have, named, found, i, ok)
				return
			}
			have[i]++
		}
	}
	for _, weights := range goodWeights() {
		check(150, weights)
	}
	check(500, []int{80, 7, 7, 6})
	check(500, []int{1, 2, 3, 4, 3, 2, 1, 0, 5, 5})
	check(2100, []int{1, 1000})
	check(2100, []int{1000, 1, 999, 2})
	r := rand.New(rand.NewSource(4))
	for range 60 {
		check(r.Intn(200), someWeights(r))
	}
}

// stepped tells whether the steps of P3.3 lead to these numbers: nobody's last one comes after another's next one.
func stepped(weights, list []int) bool {
	for i, n := range list {
		if weights[i] == 0 && n != 0 {
			return false
		}
		if n == 0 {
			continue
		}
		for j, m := range list {
			if j == i || weights[j] == 0 {
				continue
			}
			last, next := n*weights[j], (m+1)*weights[i]
			if last > next || last == next && i > j {
				return false
			}
		}
	}
	return true
}

// TestSeats holds P3.3 and P3.5 for totals of any size.
func TestSeats(t *testing.T) {
	check := func(total int, weights []int) {
		t.Helper()
		list, e := appo.Seats(total, weights...)
		if e != api.OK || len(list) != len(weights) || sum(list) != total || !stepped(weights, list) {
			t.Errorf("Seats(%d, %v): %v, %d", total, weights, list, e)
		}
	}
	for _, weights := range goodWeights() {
		for _, total := range []int{0, 1, 2, 3, 63, 64, 65, 999, maxTotal - 1, maxTotal} {
			check(total, weights)
		}
	}
	r := rand.New(rand.NewSource(5))
	for range 2000 {
		check(someTotal(r), someWeights(r))
	}
}

// TestSeatsGrow holds P3.7 for totals of any size, up to the greatest.
func TestSeatsGrow(t *testing.T) {
	check := func(total int, weights []int) {
		t.Helper()
		fewer, e := appo.Seats(total, weights...)
		more, moreE := appo.Seats(total+1, weights...)
		if e != api.OK || moreE != api.OK || len(fewer) != len(weights) {
			t.Errorf("Seats(%d, %v): %v, %d; one more: %v, %d", total, weights, fewer, e, more, moreE)
			return
		}
		if i, ok := appo.Next(weights, fewer); ok {
			fewer[i]++
		}
		if !slices.Equal(fewer, more) {
			t.Errorf("Seats(%d, %v): %v; want %v", total+1, weights, more, fewer)
		}
	}
	for _, weights := range goodWeights() {
		check(0, weights)
		check(maxTotal-1, weights)
	}
	r := rand.New(rand.NewSource(6))
	for range 2000 {
		check(min(someTotal(r), maxTotal-1), someWeights(r))
	}
}

// TestExactness holds P3.8.
func TestExactness(t *testing.T) {
	check := func(total int, weights, want []int) {
		t.Helper()
		if list, e := appo.Largest(total, weights...); e != api.OK || !slices.Equal(list, want) {
			t.Errorf("Largest(%d, %v): %v, %d; want %v", total, weights, list, e, want)
		}
		if list, e := appo.Seats(total, weights...); e != api.OK || !slices.Equal(list, want) {
			t.Errorf("Seats(%d, %v): %v, %d; want %v", total, weights, list, e, want)
		}
	}
	check(6, []int{200, 400, 600}, []int{1, 2, 3})
	check(12, []int{0, 5, 5, 10, 0, 10}, []int{0, 2, 2, 4, 0, 4})
	r := rand.New(rand.NewSource(7))
	for range 2000 {
		weights := someWeights(r)
		divisor := 0
		for _, weight := range weights {
			divisor = int(new(big.Int).GCD(nil, nil, big.NewInt(int64(divisor)), big.NewInt(int64(weight))).Int64())
		}
		// The least total whose quotas are all whole, and so many of it.
		least := sum(weights) / divisor
		times := r.Intn(maxTotal/least + 1)
		want := make([]int, len(weights))
		for i, weight := range weights {
			want[i] = weight / divisor * times
		}
		check(least*times, weights, want)
	}
}

func TestKnownLags(t *testing.T) {
	type lag struct {
		weights, have, want []int
		e                   api.Errno
	}
	for i, l := range []lag{
		{[]int{1, 3}, []int{2, 2}, []int{-4, 4}, api.OK},
		{[]int{1, 3}, []int{1, 3}, []int{0, 0}, api.OK},
		{[]int{1, 3}, []int{0, 0}, []int{0, 0}, api.OK},
		{[]int{0, 3}, []int{5, 1}, []int{-15, 15}, api.OK},
		{[]int{7}, []int{9}, []int{0}, api.OK},
		{[]int{1}, []int{maxTotal}, []int{0}, api.OK},
		{[]int{6, 3, 1}, []int{0, 0, 10}, []int{60, 30, -90}, api.OK},
		{[]int{1000, 1}, []int{0, maxTotal}, []int{1000 * maxTotal, -1000 * maxTotal}, api.OK},
		{[]int{0, 1000}, []int{maxTotal, 0}, []int{-1000 * maxTotal, 1000 * maxTotal}, api.OK},
		{[]int{1, 1}, []int{maxTotal, 0}, []int{-maxTotal, maxTotal}, api.OK},
		{repeated(64, 1000), repeated(64, maxTotal), repeated(64, 0), api.OK},
		{[]int{1, 1}, []int{maxTotal + 1, 0}, nil, api.ErrArg},
		{[]int{1, 1}, []int{0, maxTotal + 1}, nil, api.ErrArg},
		{[]int{1, 1}, []int{-1, 1}, nil, api.ErrArg},
		{[]int{1, 1}, []int{1, -1}, nil, api.ErrArg},
		{[]int{0, 1}, []int{-1, 1}, nil, api.ErrArg},
		{[]int{1, 1}, []int{math.MaxInt, 1}, nil, api.ErrArg},
		{[]int{1, 1}, []int{math.MinInt, 1}, nil, api.ErrArg},
		{[]int{1, 1}, []int{1}, nil, api.ErrArg},
		{[]int{1, 1}, []int{1, 1, 1}, nil, api.ErrArg},
		{[]int{1, 1}, nil, nil, api.ErrArg},
		{[]int{1}, []int{}, nil, api.ErrArg},
		{nil, nil, nil, api.ErrArg},
		{nil, []int{1}, nil, api.ErrArg},
	} {
		if got, e := appo.Lag(l.weights, l.have); e != l.e || !slices.Equal(got, l.want) {
			t.Errorf("%d: Lag(%v, %v): %v, %d; want %v, %d", i, l.weights, l.have, got, e, l.want, l.e)
		}
	}
	for name, weights := range badWeights() {
		if got, e := appo.Lag(weights, make([]int, len(weights))); len(got) != 0 || e != api.ErrArg {
			t.Errorf("Lag of %s: %v, %d; want ErrArg", name, got, e)
		}
	}
}

// TestLag holds P3.4 against sums that are taken one by one.
func TestLag(t *testing.T) {
	r := rand.New(rand.NewSource(8))
	for range 2000 {
		weights := someWeights(r)
		have := make([]int, len(weights))
		for i := range have {
			have[i] = someTotal(r)
		}
		want := make([]int, len(weights))
		for i := range want {
			for j := range want {
				want[i] += have[j]*weights[i] - have[i]*weights[j]
			}
		}
		if got, e := appo.Lag(weights, have); e != api.OK || !slices.Equal(got, want) || sum(got) != 0 {
			t.Errorf("Lag(%v, %v): %v, %d; want %v", weights, have, got, e, want)
		}
		// Whoever has just the quotas lacks nothing.
		if got, e := appo.Lag(weights, weights); e != api.OK || !slices.Equal(got, make([]int, len(weights))) {
			t.Errorf("Lag(%v, %v): %v, %d; want zeros", weights, weights, got, e)
		}
	}
}

// TestArgumentsStay holds the rule on memory: arguments, and what lies behind them, stay; results are new.
func TestArgumentsStay(t *testing.T) {
	weights := append(make([]int, 0, 8), 5, 3, 3, 1, 77, 78, 79, 80)[:4]
	have := append(make([]int, 0, 8), 2, 9, 0, 4, 87, 88, 89, 90)[:4]
	oldWeights, oldHave := slices.Clone(weights[:8]), slices.Clone(have[:8])
	calls := map[string]func() []int{
		"Largest": func() []int { list, _ := appo.Largest(9, weights...); return list },
		"Seats":   func() []int { list, _ := appo.Seats(9, weights...); return list },
		"Lag":     func() []int { list, _ := appo.Lag(weights, have); return list },
		"Next":    func() []int { i, _ := appo.Next(weights, have); return []int{i} },
		"Check":   func() []int { return []int{int(appo.Check(weights...))} },
	}
	for name, call := range calls {
		first := call()
		kept := slices.Clone(first)
		for i := range first[:cap(first)] {
			first[:cap(first)][i] = -7
		}
		if second := call(); !slices.Equal(second, kept) {
			t.Errorf("%s: %v, and once more %v", name, kept, second)
		}
		if !slices.Equal(weights[:8], oldWeights) || !slices.Equal(have[:8], oldHave) {
			t.Fatalf("%s: arguments are %v and %v; were %v and %v", name, weights[:8], have[:8], oldWeights, oldHave)
		}
	}
}
