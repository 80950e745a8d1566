// Package fixed is arithmetic on values in millionths: see DOC.md, chapter 1.
package fixed

import (
	"math/bits"

	"graticule/api"
)

// Of is the value of n millionths.
func Of(n int) api.Val {
	if !inRange(n) {
		return api.Val{}
	}
	return api.Val{Ok: true, N: n}
}

// Int is the value of n whole ones.
func Int(n int) api.Val {
	const most = api.MaxN / api.Scale
	// Asked ahead of the product, which could wrap round into the range.
	if n < -most || n > most {
		return api.Val{}
	}
	return Of(n * api.Scale)
}

// Is tells whether v is a value; none is one.
func Is(v api.Val) bool {
	if !v.Ok {
		return v.N == 0
	}
	return inRange(v.N)
}

// Add is the sum of all, from left to right.
func Add(l ...api.Val) api.Val {
	sum := Of(0)
	for _, v := range l {
		sum = plus(sum, v)
	}
	return sum
}

// Sub is a less b.
func Sub(a, b api.Val) api.Val {
	if !isNumber(a) || !isNumber(b) {
		return api.Val{}
	}
	// As in plus, a difference that wraps round stays out of range.
	return Of(a.N - b.N)
}

// Mul is a times b.
func Mul(a, b api.Val) api.Val {
	if !isNumber(a) || !isNumber(b) {
		return api.Val{}
	}
	return ofQuotient(MulDiv(a.N, b.N, api.Scale))
}

// Div is a by b.
func Div(a, b api.Val) api.Val {
	if !isNumber(a) || !isNumber(b) {
		return api.Val{}
	}
	return ofQuotient(MulDiv(a.N, api.Scale, b.N))
}

// Sqrt is the root of a, rounded down.
func Sqrt(a api.Val) api.Val {
	if !isNumber(a) || a.N < 0 {
		return api.Val{}
	}
	hi, lo := bits.Mul64(uint64(a.N), api.Scale)
	return Of(int(root(hi, lo)))
}

// Abs is a without its sign.
func Abs(a api.Val) api.Val {
	if !isNumber(a) {
		return api.Val{}
	}
	return Of(max(a.N, -a.N))
}

// Less tells whether a and b are numbers and a is below b.
func Less(a, b api.Val) bool {
	return isNumber(a) && isNumber(b) && a.N < b.N
}

// MulDiv is a times b, by c, to the nearest whole, halves away from 0.
func MulDiv(a, b, c int) (int, bool) {
	if c == 0 {
		return 0, false
	}
	hi, lo := bits.Mul64(magnitude(a), magnitude(b))
	d := magnitude(c)
	// A quotient of more than one word is out of range, and Div64 panics at it.
	if hi >= d {
		return 0, false
	}
	q, rest := bits.Div64(hi, lo, d)
	// Asked ahead of rounding too, so that one more cannot wrap round to 0.
	if q > api.MaxN {
		return 0, false
	}
	// Twice the rest fits one word, since d is at most 1 << 63.
	if 2*rest >= d {
		q++
	}
	if q > api.MaxN {
		return 0, false
	}
	n := int(q)
	if (a < 0) != (b < 0) != (c < 0) {
		n = -n
	}
	return n, true
}

func inRange(n int) bool { return -api.MaxN <= n && n <= api.MaxN }

// isNumber tells whether v is a value other than none.
func isNumber(v api.Val) bool { return v.Ok && inRange(v.N) }

func plus(a, b api.Val) api.Val {
	if !isNumber(a) || !isNumber(b) {
		return api.Val{}
	}
	// Only MaxN twice wraps round, and to -2*MaxN, which is out of range too.
	return Of(a.N + b.N)
}

func ofQuotient(n int, ok bool) api.Val {
	if !ok {
		return api.Val{}
	}
	return Of(n)
}

// magnitude is n without its sign; of the least int too, which has no negative.
func magnitude(n int) uint64 {
	if n < 0 {
		return -uint64(n)
	}
	return uint64(n)
}

// root is the greatest number whose square is at most that of the two words,
// which may be up to MaxN * Scale.
func root(hi, lo uint64) uint64 {
	const topBit = 40 // the root of MaxN * Scale is below 1 << 41
	n := uint64(0)
	for bit := topBit; bit >= 0; bit-- {
		more := n | 1<<bit
		h, l := bits.Mul64(more, more)
		if h < hi || h == hi && l <= lo {
			n = more
		}
	}
	return n
}
