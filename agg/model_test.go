package agg_test

import (
	"math"
	"math/big"
	"slices"
	"testing"

	"graticule/agg"
	"graticule/api"
)

const (
	maxN  = 4611686018427387904
	limit = 16777216 // up to which Enough reckons
	whole = 1000000  // an xff by which all must be known
)

// The kinds as numbers of their own.
const (
	avg  = 1
	sum  = 2
	last = 3
	most = 4
	mini = 5
)

var none api.Val

// num is a number that is not made by the packages that are tested.
func num(n int) api.Val { return api.Val{Ok: true, N: n} }

// nums are numbers in a row.
func nums(l ...int) []api.Val {
	row := make([]api.Val, len(l))
	for i, n := range l {
		row[i] = num(n)
	}
	return row
}

// row is values in a row.
func row(l ...api.Val) []api.Val { return l }

// notValues are what chapter 1 says are no values.
func notValues() []api.Val {
	return []api.Val{
		{N: 1}, {N: -1}, {N: maxN}, {N: -maxN}, {N: math.MaxInt}, {N: math.MinInt},
		num(maxN + 1), num(-maxN - 1), num(math.MaxInt), num(math.MinInt),
	}
}

// kinds are the five kinds.
func kinds() []int { return []int{avg, sum, last, most, mini} }

// noKinds are numbers that are not of the five kinds.
func noKinds() []int {
	return []int{0, 6, 7, 8, 10, 255, 256, 257, 1<<32 + 1, 1<<32 + 5, 1<<62 + 1, math.MaxInt, -1, -2, -5, -6, -255, math.MinInt, math.MinInt + 1, math.MinInt + 5}
}

// edges are ints at which something of Enough turns: signs, the whole, the limit, products of more than a word.
func edges() []int {
	l := []int{0, math.MinInt, math.MinInt + 1}
	for _, n := range []int{1, 2, 3, 4, 5, 7, 10, 333333, 333334, 499999, 500000, 500001, 666666, 666667, whole - 1, whole, whole + 1,
		limit/2 - 1, limit / 2, limit/2 + 1, limit - 1, limit, limit + 1, limit + 2, 2 * limit, 1<<32 - 1, 1 << 32, 1<<32 + 1,
		math.MaxInt / whole, math.MaxInt/whole + 1, maxN - 1, maxN, maxN + 1, math.MaxInt - 1, math.MaxInt} {
		l = append(l, n, -n)
	}
	return l
}

// scattered are n ints of all lengths and both signs, the same each time.
func scattered(n int, seed uint64) []int {
	l := make([]int, n)
	for i := range l {
		seed = seed*6364136223846793005 + 1442695040888963407
		x := seed ^ seed>>29
		l[i] = int(x) >> (i * 7 % 64)
	}
	return l
}

// rowsOf are all rows of up to so many of the values.
func rowsOf(vals []api.Val, longest int) [][]api.Val {
	rows := [][]api.Val{nil}
	for first := 0; longest > 0; longest-- {
		end := len(rows)
		for _, r := range rows[first:end] {
			for _, v := range vals {
				rows = append(rows, append(slices.Clone(r), v))
			}
		}
		first = end
	}
	return rows
}

// turning are values at which something of the five kinds turns.
func turning() []api.Val {
	return row(none, num(0), num(1), num(-1), num(2), num(maxN), num(-maxN), num(maxN+1), api.Val{N: 7})
}

func inRange(x *big.Int) bool { return x.CmpAbs(big.NewInt(maxN)) <= 0 }

func isKnown(v api.Val) bool { return v.Ok && inRange(big.NewInt(int64(v.N))) }

// knownOf is P6.1: those that are known.
func knownOf(l []api.Val) []api.Val {
	return slices.DeleteFunc(slices.Clone(l), func(v api.Val) bool { return !isKnown(v) })
}

// total is the sum of known values, and whether none of its steps leaves the range.
func total(known []api.Val) (*big.Int, bool) {
	x := new(big.Int)
	for _, v := range known {
		x.Add(x, big.NewInt(int64(v.N)))
		if !inRange(x) {
			return nil, false
		}
	}
	return x, true
}

// mean is x by n to the nearest whole, halves away from 0.
func mean(x *big.Int, n int) *big.Int {
	double := big.NewInt(2 * int64(n))
	q := new(big.Int).Abs(x)
	q.Lsh(q, 1).Add(q, big.NewInt(int64(n))).Quo(q, double)
	if x.Sign() < 0 {
		q.Neg(q)
	}
	return q
}

// ofKnown is P6.1 in exact numbers: known values as one.
func ofKnown(kind int, known []api.Val) api.Val {
	if len(known) == 0 {
		return none
	}
	switch kind {
	case last:
		return known[len(known)-1]
	case most, mini:
		best := known[0].N
		for _, v := range known {
			if kind == most && v.N > best || kind == mini && v.N < best {
				best = v.N
			}
		}
		return num(best)
	case sum, avg:
		x, ok := total(known)
		if !ok {
			return none
		}
		if kind == avg {
			x = mean(x, len(known))
		}
		return num(int(x.Int64()))
	}
	return none
}

// ofAll is P6.1 in exact numbers.
func ofAll(kind int, l []api.Val) api.Val { return ofKnown(kind, knownOf(l)) }

func limited(n int) *big.Int {
	switch {
	case n < 0:
		return new(big.Int)
	case n > limit:
		return big.NewInt(limit)
	}
	return big.NewInt(int64(n))
}

// areEnough is P6.2 in exact numbers.
func areEnough(xff, known, all int) bool {
	x, k, a := limited(xff), limited(known), limited(all)
	return k.Sign() > 0 && k.Cmp(a) <= 0 && new(big.Int).Mul(k, big.NewInt(whole)).Cmp(x.Mul(x, a)) >= 0
}

// putOf is P6.2 in exact numbers.
func putOf(kind, xff int, l []api.Val) api.Val {
	if !areEnough(xff, len(knownOf(l)), len(l)) {
		return none
	}
	return ofAll(kind, l)
}

// ofIs fails unless Of answers want.
func ofIs(t *testing.T, kind int, l []api.Val, want api.Val) {
	t.Helper()
	if got := agg.Of(kind, l...); got != want {
		t.Errorf("Of(%d, %v): %v, want %v", kind, l, got, want)
	}
}

// knownIs fails unless Known answers want.
func knownIs(t *testing.T, l, want []api.Val) {
	t.Helper()
	if got := agg.Known(l...); !slices.Equal(got, want) {
		t.Errorf("Known(%v): %v, want %v", l, got, want)
	}
}

// enoughIs fails unless Enough answers want.
func enoughIs(t *testing.T, xff, known, all int, want bool) {
	t.Helper()
	if got := agg.Enough(xff, known, all); got != want {
		t.Errorf("Enough(%d, %d, %d): %t", xff, known, all, got)
	}
}

// putIs fails unless Put answers want.
func putIs(t *testing.T, kind, xff int, l []api.Val, want api.Val) {
	t.Helper()
	if got := agg.Put(kind, xff, l...); got != want {
		t.Errorf("Put(%d, %d, %v): %v, want %v", kind, xff, l, got, want)
	}
}

// kindIs fails unless Kind answers want.
func kindIs(t *testing.T, name string, want int) {
	t.Helper()
	if got := agg.Kind(name); got != want {
		t.Errorf("Kind(%.40q) of %d bytes: %d, want %d", name, len(name), got, want)
	}
}
