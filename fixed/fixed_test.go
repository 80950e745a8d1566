package fixed_test

import (
	"math"
	"math/big"
	"testing"

	"graticule/api"
	"graticule/fixed"
)

var none api.Val

// num is a number that is not made by the package that is tested.
func num(n int) api.Val { return api.Val{Ok: true, N: n} }

// notValues are what P1.1 says are no values.
func notValues() []api.Val {
	return []api.Val{
		{N: 1}, {N: -1}, {N: api.MaxN}, {N: math.MaxInt}, {N: math.MinInt},
		num(api.MaxN + 1), num(-api.MaxN - 1), num(math.MaxInt), num(math.MinInt),
	}
}

// edges are ints at which something turns: signs, halves, words, the range.
func edges() []int {
	small := []int{1, 2, 3, 5, 7, 10, 499999, 500000, 500001, api.Scale - 1, api.Scale, api.Scale + 1, 1500000,
		1<<31 - 1, 1 << 31, 1<<31 + 1, 1<<32 - 1, 1 << 32, 1<<32 + 1, 1<<53 + 1,
		api.MaxN/api.Scale - 1, api.MaxN / api.Scale, api.MaxN/api.Scale + 1,
		api.MaxN/3 - 1, api.MaxN / 3, api.MaxN/2 - 1, api.MaxN / 2, api.MaxN/2 + 1,
		api.MaxN - api.Scale, api.MaxN - 2, api.MaxN - 1, api.MaxN, api.MaxN + 1, api.MaxN + 2,
		math.MaxInt - 1, math.MaxInt}
	l := []int{0, math.MinInt}
	for _, n := range small {
		l = append(l, n, -n)
	}
	return l
}

// scattered are n ints of all lengths and both signs, the same each time.
func scattered(n int, seed uint64) []int {
	l := make([]int, n)
	for i := range l {
		seed = seed*6364136223846793005 + 1442695040888963407
		x := seed ^ seed>>29
		l[i] = int(x) >> (i * 7 % 64)
	}
	return l
}

func exactInRange(x *big.Int) bool { return x.CmpAbs(big.NewInt(api.MaxN)) <= 0 }

// exactVal is the value that an exact integer of millionths asks for.
func exactVal(x *big.Int) api.Val {
	if !exactInRange(x) {
		return none
	}
	return num(int(x.Int64()))
}

// exactMulDiv is P1.3 in big integers.
func exactMulDiv(a, b, c int) (int, bool) {
	if c == 0 {
		return 0, false
	}
	p := new(big.Int).Mul(big.NewInt(int64(a)), big.NewInt(int64(b)))
	d := big.NewInt(int64(c))
	negative := p.Sign()*d.Sign() < 0
	p.Abs(p)
	d.Abs(d)
	// floor((2p + d) / 2d) is p / d with halves up.
	q := new(big.Int).Lsh(p, 1)
	q.Add(q, d)
	q.Quo(q, new(big.Int).Lsh(d, 1))
	if negative {
		q.Neg(q)
	}
	if !exactInRange(q) {
		return 0, false
	}
	return int(q.Int64()), true
}

func exactSqrt(n int) api.Val {
	if n < 0 {
		return none
	}
	x := new(big.Int).Mul(big.NewInt(int64(n)), big.NewInt(api.Scale))
	return exactVal(x.Sqrt(x))
}

func want(t *testing.T, what string, got, want api.Val) {
	t.Helper()
	if got != want {
		t.Errorf("%s: got %v, want %v", what, got, want)
	}
}

// P1.1

func TestIs(t *testing.T) {
	for _, v := range []api.Val{none, num(0), num(1), num(-1), num(api.MaxN - 1), num(api.MaxN), num(-api.MaxN)} {
		if !fixed.Is(v) {
			t.Errorf("Is(%v) is false", v)
		}
	}
	for _, v := range notValues() {
		if fixed.Is(v) {
			t.Errorf("Is(%v) is true", v)
		}
	}
}

func TestOf(t *testing.T) {
	for _, n := range []int{0, 1, -1, 42, -1234567, api.MaxN - 1, -api.MaxN + 1, api.MaxN, -api.MaxN} {
		want(t, "Of in range", fixed.Of(n), num(n))
	}
	for _, n := range []int{api.MaxN + 1, -api.MaxN - 1, math.MaxInt, math.MinInt, math.MinInt + 1} {
		want(t, "Of out of range", fixed.Of(n), none)
	}
}

func TestInt(t *testing.T) {
	const most = api.MaxN / api.Scale
	for _, x := range []struct{ n, want int }{
		{0, 0}, {1, 1000000}, {-1, -1000000}, {-3, -3000000}, {1234, 1234000000},
		{most, 4611686018427000000}, {-most, -4611686018427000000},
	} {
		want(t, "Int in range", fixed.Int(x.n), num(x.want))
	}
	// Those from 1 << 58 on wrap round to 0 or to small numbers if they are multiplied first.
	for _, n := range []int{most + 1, -most - 1, 1 << 58, 1<<58 + 1, -1 << 58, 1 << 62, math.MaxInt, math.MinInt, math.MinInt + 1} {
		want(t, "Int out of range", fixed.Int(n), none)
	}
}

// P1.2

func TestAdd(t *testing.T) {
	most := num(api.MaxN)
	least := num(-api.MaxN)
	for _, x := range []struct {
		what string
		l    []api.Val
		want api.Val
	}{
		{"of nothing", nil, num(0)},
		{"of an empty list", []api.Val{}, num(0)},
		{"of one", []api.Val{num(-7)}, num(-7)},
		{"of three", []api.Val{num(1), num(-5), num(30)}, num(26)},
		{"up to the end", []api.Val{num(api.MaxN - 1), num(1)}, most},
		{"down to the end", []api.Val{num(1 - api.MaxN), num(-1)}, least},
		{"of both ends", []api.Val{most, least}, num(0)},
		{"beyond the end", []api.Val{most, num(1)}, none},
		{"below the end", []api.Val{least, num(-1)}, none},
		{"that wraps round", []api.Val{most, most}, none},
		{"that fits a word and not the range", []api.Val{least, least}, none},
		{"that leaves the range and comes back", []api.Val{most, num(1), num(-2)}, none},
		{"that leaves it below and comes back", []api.Val{least, num(-1), num(2)}, none},
		{"that wraps round to where it began", []api.Val{most, most, most, most}, none},
		{"that in another order stays inside", []api.Val{most, num(-2), num(1)}, num(api.MaxN - 1)},
		{"with none first", []api.Val{none, num(1)}, none},
		{"with none last", []api.Val{num(1), num(2), none}, none},
		{"of none", []api.Val{none}, none},
		{"of none twice", []api.Val{none, none}, none},
		{"with none after the range is left", []api.Val{most, num(1), none}, none},
	} {
		want(t, "Add "+x.what, fixed.Add(x.l...), x.want)
	}
	want(t, "Add without a list", fixed.Add(), num(0))
	want(t, "Add of arguments", fixed.Add(num(1), num(2), num(3), num(4)), num(10))
	for _, v := range notValues() {
		want(t, "Add of no value", fixed.Add(v), none)
		want(t, "Add of no value first", fixed.Add(v, num(1)), none)
		want(t, "Add of no value last", fixed.Add(num(1), v), none)
		want(t, "Add of no value and its opposite", fixed.Add(v, num(-1), num(-api.MaxN)), none)
	}
}

func TestAddIsExact(t *testing.T) {
	l := scattered(3000, 11)
	for i := range l {
		l[i] >>= 1
	}
	for i := 0; i+5 <= len(l); i++ {
		vals := []api.Val{}
		sum, ok := new(big.Int), true
		for _, n := range l[i : i+5] {
			vals = append(vals, num(n))
			sum.Add(sum, big.NewInt(int64(n)))
			ok = ok && exactInRange(big.NewInt(int64(n))) && exactInRange(sum)
		}
		w := none
		if ok {
			w = exactVal(sum)
		}
		want(t, "Add", fixed.Add(vals...), w)
	}
}

func TestAddKeepsItsArguments(t *testing.T) {
	whole := []api.Val{num(1), num(2), none, {N: 9}, num(-3)}
	for n := range len(whole) + 1 {
		fixed.Add(whole[:n]...)
	}
	for i, v := range []api.Val{num(1), num(2), none, {N: 9}, num(-3)} {
		want(t, "argument after Add", whole[i], v)
	}
}

func TestSub(t *testing.T) {
	for _, x := range []struct {
		a, b int
		want api.Val
	}{
		{3, 5, num(-2)}, {5, 3, num(2)}, {0, 0, num(0)}, {-4, -4, num(0)}, {-4, 4, num(-8)},
		{0, api.MaxN, num(-api.MaxN)}, {0, -api.MaxN, num(api.MaxN)},
		{api.MaxN, api.MaxN, num(0)}, {-api.MaxN, -api.MaxN, num(0)},
		{1 - api.MaxN, 1, num(-api.MaxN)}, {api.MaxN - 1, -1, num(api.MaxN)},
		{-api.MaxN, 1, none}, {api.MaxN, -1, none},
		{api.MaxN, -api.MaxN, none}, {-api.MaxN, api.MaxN, none},
	} {
		want(t, "Sub", fixed.Sub(num(x.a), num(x.b)), x.want)
	}
	refuses(t, "Sub", fixed.Sub)
}

// refuses holds a function of two against none and what is no value.
func refuses(t *testing.T, what string, f func(a, b api.Val) api.Val) {
	t.Helper()
	for _, v := range append(notValues(), none) {
		for _, good := range []api.Val{num(0), num(1), num(-1), num(api.Scale), num(api.MaxN), num(-api.MaxN)} {
			want(t, what+" with a wrong first", f(v, good), none)
			want(t, what+" with a wrong second", f(good, v), none)
		}
		want(t, what+" with itself", f(v, v), none)
	}
}

func TestAbs(t *testing.T) {
	for _, n := range []int{0, 1, 7, 1000000, api.MaxN - 1, api.MaxN} {
		want(t, "Abs above 0", fixed.Abs(num(n)), num(n))
		want(t, "Abs below 0", fixed.Abs(num(-n)), num(n))
	}
	for _, v := range append(notValues(), none) {
		want(t, "Abs of a wrong one", fixed.Abs(v), none)
	}
}

// P1.3

func TestMulDiv(t *testing.T) {
	for _, x := range []struct {
		a, b, c, n int
		ok         bool
	}{
		{6, 7, 1, 42, true}, {6, 7, -1, -42, true}, {-6, 7, 2, -21, true}, {-6, -7, 2, 21, true},
		{0, 5, 3, 0, true}, {5, 0, -9, 0, true}, {0, 0, math.MinInt, 0, true},
		// below a half, a half and above one, both signs
		{1, 1, 3, 0, true}, {-1, 1, 3, 0, true}, {2, 1, 3, 1, true}, {2, -1, 3, -1, true},
		{1, 1, 2, 1, true}, {-1, 1, 2, -1, true}, {1, -1, 2, -1, true}, {1, 1, -2, -1, true}, {-1, 1, -2, 1, true}, {-1, -1, -2, -1, true},
		{3, 1, 2, 2, true}, {-3, 1, 2, -2, true}, {5, 1, 2, 3, true}, {-5, 1, 2, -3, true},
		{4, 1, 10, 0, true}, {5, 1, 10, 1, true}, {6, 1, 10, 1, true}, {14, 1, 10, 1, true}, {15, 1, 10, 2, true}, {25, 1, 10, 3, true},
		// no third number
		{0, 0, 0, 0, false}, {1, 1, 0, 0, false}, {-1, math.MaxInt, 0, 0, false},
		// products of more than a word
		{1 << 40, 1 << 40, 1 << 40, 1 << 40, true}, {api.MaxN, api.MaxN, api.MaxN, api.MaxN, true},
		{math.MaxInt, math.MaxInt, math.MinInt, 0, false}, {math.MaxInt, api.MaxN, math.MaxInt, api.MaxN, true},
		{math.MinInt, math.MinInt, math.MinInt, 0, false}, {math.MinInt, api.MaxN, math.MinInt, api.MaxN, true},
		{math.MinInt, math.MaxInt, 1, 0, false}, {math.MaxInt, math.MaxInt, 1, 0, false},
		// thirds so great that the quotient is 0 or 1
		{math.MaxInt, 1, math.MinInt, -1, true}, {api.MaxN, 1, math.MinInt, -1, true}, {api.MaxN - 1, 1, math.MinInt, 0, true},
		{1, 1, math.MinInt, 0, true}, {1, 1, math.MaxInt, 0, true}, {math.MinInt, 1, math.MinInt, 1, true},
		// the ends of the range and just beyond
		{api.MaxN, 1, 1, api.MaxN, true}, {-api.MaxN, 1, 1, -api.MaxN, true}, {api.MaxN, 1, -1, -api.MaxN, true},
		{api.MaxN + 1, 1, 1, 0, false}, {-api.MaxN - 1, 1, 1, 0, false}, {math.MinInt, 1, 2, -api.MaxN, true}, {math.MinInt, 1, -2, api.MaxN, true},
		{math.MaxInt, 1, 2, api.MaxN, true}, {-math.MaxInt, 1, 2, -api.MaxN, true}, // rounded up to the end
		{api.MaxN, 4, 3, 0, false}, {math.MinInt, 1, 1, 0, false}, {math.MinInt, 1, -1, 0, false},
		{2*(api.MaxN/2) + 1, 1, 1, 0, false}, {api.MaxN/2 + 1, 2, 1, 0, false},
		// quotients of 1 << 64 and just around it
		{api.MaxN, 4, 1, 0, false}, {api.MaxN, 4, 2, 0, false}, {api.MaxN, 4, 4, api.MaxN, true},
		{api.MaxN, 8, 1, 0, false}, {math.MinInt, 2, 1, 0, false}, {math.MinInt, -2, 1, 0, false},
	} {
		if n, ok := fixed.MulDiv(x.a, x.b, x.c); n != x.n || ok != x.ok {
			t.Errorf("MulDiv(%d, %d, %d): got %d %t, want %d %t", x.a, x.b, x.c, n, ok, x.n, x.ok)
		}
	}
}

// (1 << 65 - 1) / 2 rounds up from the greatest word, which must not wrap round to 0.
func TestMulDivDoesNotWrapWhenItRounds(t *testing.T) {
	// 31 * 1190112520884487201 = 1 << 65 - 1
	if n, ok := fixed.MulDiv(31, 1190112520884487201, 2); n != 0 || ok {
		t.Error(n, ok)
	}
	if n, ok := fixed.MulDiv(-31, 1190112520884487201, 2); n != 0 || ok {
		t.Error(n, ok)
	}
}

func checkMulDiv(t *testing.T, a, b, c int) {
	t.Helper()
	n, ok := fixed.MulDiv(a, b, c)
	wantN, wantOk := exactMulDiv(a, b, c)
	if n != wantN || ok != wantOk {
		t.Fatalf("MulDiv(%d, %d, %d): got %d %t, want %d %t", a, b, c, n, ok, wantN, wantOk)
	}
}

func TestMulDivIsExact(t *testing.T) {
	for a := -12; a <= 12; a++ {
		for b := -12; b <= 12; b++ {
			for c := -12; c <= 12; c++ {
				checkMulDiv(t, a, b, c)
			}
		}
	}
	l := edges()
	for _, a := range l {
		for _, b := range l {
			for _, c := range l {
				checkMulDiv(t, a, b, c)
			}
		}
	}
	as, bs, cs := scattered(50000, 1), scattered(50000, 2), scattered(50000, 3)
	for i := range as {
		b, c := bs[i*31%len(bs)], cs[i*17%len(cs)]
		checkMulDiv(t, as[i], b, c)
	}
}

func TestMul(t *testing.T) {
	for _, x := range []struct {
		a, b int
		want api.Val
	}{
		{2000000, 3000000, num(6000000)}, {1500000, -2000000, num(-3000000)}, {0, 5, num(0)}, {-1, 0, num(0)},
		{1, 500000, num(1)}, {-1, 500000, num(-1)}, {-1, -500000, num(1)}, {1, 499999, num(0)}, {-1, 499999, num(0)}, {3, 500000, num(2)},
		{api.MaxN, 1000000, num(api.MaxN)}, {api.MaxN, -1000000, num(-api.MaxN)}, {-api.MaxN, -1000000, num(api.MaxN)},
		{api.MaxN, 1000001, none}, {api.MaxN, 2000000, none}, {-api.MaxN, 1000001, none}, {api.MaxN, api.MaxN, none}, {api.MaxN, -api.MaxN, none},
		{1 << 61, 2000000, num(api.MaxN)}, {1<<61 + 1, 2000000, none}, {1 << 40, 1 << 40, num(1208925819614629175)},
	} {
		want(t, "Mul", fixed.Mul(num(x.a), num(x.b)), x.want)
	}
	refuses(t, "Mul", fixed.Mul)
}

func TestDiv(t *testing.T) {
	for _, x := range []struct {
		a, b int
		want api.Val
	}{
		{1000000, 3000000, num(333333)}, {2000000, 3000000, num(666667)}, {-2000000, 3000000, num(-666667)}, {2000000, -3000000, num(-666667)}, {-2000000, -3000000, num(666667)},
		{0, 7, num(0)}, {0, -7, num(0)}, {1, 2000000, num(1)}, {-1, 2000000, num(-1)}, {1, 2000001, num(0)}, {1, -2000000, num(-1)},
		{1, 0, none}, {0, 0, none}, {-api.MaxN, 0, none},
		{api.MaxN, 1000000, num(api.MaxN)}, {-api.MaxN, 1000000, num(-api.MaxN)}, {api.MaxN, -1000000, num(-api.MaxN)},
		{api.MaxN, 999999, none}, {api.MaxN, 1, none}, {-api.MaxN, 1, none}, {api.MaxN, api.MaxN, num(1000000)}, {api.MaxN, -api.MaxN, num(-1000000)},
		{1 << 61, 500000, num(api.MaxN)}, {1<<61 + 1, 500000, none},
	} {
		want(t, "Div", fixed.Div(num(x.a), num(x.b)), x.want)
	}
	refuses(t, "Div", fixed.Div)
}

func TestMulAndDivAreMulDiv(t *testing.T) {
	l := append(edges(), scattered(400, 5)...)
	for _, a := range l {
		for _, b := range l {
			mul, div := none, none
			if exactInRange(big.NewInt(int64(a))) && exactInRange(big.NewInt(int64(b))) {
				if n, ok := exactMulDiv(a, b, api.Scale); ok {
					mul = num(n)
				}
				if n, ok := exactMulDiv(a, api.Scale, b); ok {
					div = num(n)
				}
			}
			want(t, "Mul", fixed.Mul(num(a), num(b)), mul)
			want(t, "Div", fixed.Div(num(a), num(b)), div)
		}
	}
}

func TestSqrt(t *testing.T) {
	for _, x := range []struct{ n, want int }{
		{0, 0}, {1, 1000}, {2, 1414}, {3, 1732}, {4, 2000}, {999999, 999999}, {1000000, 1000000}, {1000001, 1000000},
		{2000000, 1414213}, {4000000, 2000000}, {3999999, 1999999}, {9000000, 3000000}, {1000000000000, 1000000000},
		{18446744073709, 4294967295}, {18446744073710, 4294967296}, {api.MaxN, 2147483648000}, {api.MaxN - 1, 2147483647999},
	} {
		want(t, "Sqrt", fixed.Sqrt(num(x.n)), num(x.want))
	}
	for _, n := range []int{-1, -2, -1000000, -api.MaxN} {
		want(t, "Sqrt below 0", fixed.Sqrt(num(n)), none)
	}
	for _, v := range append(notValues(), none) {
		want(t, "Sqrt of a wrong one", fixed.Sqrt(v), none)
	}
}

func TestSqrtIsExact(t *testing.T) {
	check := func(n int) {
		if n <= api.MaxN && n >= -api.MaxN {
			want(t, "Sqrt", fixed.Sqrt(num(n)), exactSqrt(n))
		}
	}
	for n := range 3000 {
		check(n)
	}
	for _, n := range append(edges(), scattered(20000, 7)...) {
		check(n)
	}
	// Around whole squares and around each length of a number.
	for _, r := range []int{1000, 46341, 999999, 1000001, 1<<21 - 1, 1 << 21, 1<<30 + 1, 2147483647} {
		for d := -2; d <= 2; d++ {
			check(r*r + d)
		}
	}
	for bit := range 63 {
		for d := -1; d <= 1; d++ {
			check(1<<bit + d)
		}
	}
}

func TestLess(t *testing.T) {
	for _, x := range []struct {
		a, b int
		want bool
	}{
		{1, 2, true}, {2, 2, false}, {3, 2, false}, {-1, 0, true}, {0, -1, false}, {-2, -1, true}, {0, 0, false}, {0, 1, true},
		{-api.MaxN, api.MaxN, true}, {api.MaxN, -api.MaxN, false}, {api.MaxN - 1, api.MaxN, true}, {api.MaxN, api.MaxN, false},
	} {
		if fixed.Less(num(x.a), num(x.b)) != x.want {
			t.Errorf("Less(%d, %d) is %t", x.a, x.b, !x.want)
		}
	}
	for _, v := range append(notValues(), none) {
		for _, n := range []int{0, 1, -1, api.MaxN, -api.MaxN} {
			if fixed.Less(v, num(n)) || fixed.Less(num(n), v) || fixed.Less(v, v) || fixed.Less(none, v) || fixed.Less(v, none) {
				t.Errorf("Less with %v and %d", v, n)
			}
		}
	}
}

// P1.4

// answers are the results of every function that answers a value.
func answers(a, b api.Val) []api.Val {
	return []api.Val{
		fixed.Of(a.N), fixed.Int(a.N), fixed.Add(a), fixed.Add(a, b), fixed.Add(a, b, a, b), fixed.Sub(a, b),
		fixed.Mul(a, b), fixed.Div(a, b), fixed.Sqrt(a), fixed.Abs(a),
	}
}

func TestEveryResultIsAValue(t *testing.T) {
	l := append(notValues(), none)
	for _, n := range append(edges(), scattered(60, 13)...) {
		l = append(l, num(n), api.Val{N: n})
	}
	for _, a := range l {
		for _, b := range l {
			first, again := answers(a, b), answers(a, b)
			for i, v := range first {
				inside := v == none || v.Ok && v.N <= api.MaxN && v.N >= -api.MaxN
				if !inside || !fixed.Is(v) {
					t.Fatalf("answer %d of %v and %v is no value: %v", i, a, b, v)
				}
				if again[i] != v {
					t.Fatalf("answer %d of %v and %v is %v, then %v", i, a, b, v, again[i])
				}
			}
			for _, c := range []int{0, 1, -1, api.Scale, math.MinInt, b.N} {
				n, ok := fixed.MulDiv(a.N, b.N, c)
				m, ok2 := fixed.MulDiv(a.N, b.N, c)
				if n != m || ok != ok2 || !fixed.Is(api.Val{Ok: ok, N: n}) {
					t.Fatalf("MulDiv(%d, %d, %d): %d %t, then %d %t", a.N, b.N, c, n, ok, m, ok2)
				}
			}
		}
	}
}

// The examples of the chapter.
func TestExamples(t *testing.T) {
	want(t, "1 by 3", fixed.Div(fixed.Int(1), fixed.Int(3)), num(333333))
	want(t, "a half, away from 0", fixed.Mul(fixed.Of(-1), fixed.Of(500000)), num(-1))
}
