package slot_test

import (
	"bytes"
	"encoding/binary"
	"math"
	"math/big"
	"slices"
	"testing"

	"graticule/api"
	"graticule/slot"
)

const (
	maxTime = 4294967295
	maxN    = 4611686018427387904
)

// edges are ints at which something turns: signs, bytes, words, the ranges.
func edges() []int {
	l := []int{0, math.MinInt}
	for _, n := range []int{1, 2, 3, 5, 7, 59, 60, 61, 127, 128, 129, 255, 256, 257, 299, 300, 359, 360, 3599, 3600, 3601, 65535, 65536, 65537,
		1000000, 1<<24 - 1, 1 << 24, 1<<24 + 1, 1234567890, 1<<31 - 1, 1 << 31, 1<<31 + 1, maxTime - 1, maxTime, maxTime + 1, maxTime + 2, 1<<32 + 60,
		1 << 33, 1<<40 + 5, 1<<48 - 1, 1<<53 + 1, 1<<56 - 1, 1 << 56, maxN - 1, maxN, maxN + 1, math.MaxInt - 60, math.MaxInt - 1, math.MaxInt} {
		l = append(l, n, -n)
	}
	return append(l, math.MinInt+1, math.MinInt+60)
}

// scattered are n ints of all lengths and both signs, the same each time.
func scattered(n int, seed uint64) []int {
	l := make([]int, n)
	for i := range l {
		seed = seed*6364136223846793005 + 1442695040888963407
		x := seed ^ seed>>29
		l[i] = int(x) >> (i * 7 % 64)
	}
	return l
}

// positive are those of l that are at least 1.
func positive(l []int) []int {
	return slices.DeleteFunc(slices.Clone(l), func(n int) bool { return n < 1 })
}

// below1 are those of l that are less than 1.
func below1(l []int) []int {
	return slices.DeleteFunc(slices.Clone(l), func(n int) bool { return n >= 1 })
}

// rounds is how many whole steps a time of at least 0 has, in exact numbers.
func rounds(t, step int) *big.Int {
	return new(big.Int).Div(big.NewInt(int64(t)), big.NewInt(int64(step)))
}

// aligned is P5.1 in exact numbers.
func aligned(t, step int) int {
	if step < 1 || t < 0 {
		return t
	}
	n := rounds(t, step)
	return int(n.Mul(n, big.NewInt(int64(step))).Int64())
}

// placed is P5.1 in exact numbers.
func placed(a api.Archive, t int) int {
	if a.Step < 1 || a.Count < 1 || t < 0 {
		return 0
	}
	n := rounds(t, a.Step)
	return int(n.Mod(n, big.NewInt(int64(a.Count))).Int64())
}

// limited is the nearest At that a slot can tell.
func limited(at int) uint32 {
	switch {
	case at < 0:
		return 0
	case at > maxTime:
		return math.MaxUint32
	}
	return uint32(at)
}

// atRow and nRow are the two numbers of a slot.
func atRow(p api.Point) []byte { return binary.BigEndian.AppendUint32(nil, limited(p.At)) }

func nRow(p api.Point) []byte { return binary.BigEndian.AppendUint64(nil, uint64(p.N)) }

// encoded is the bytes of a point.
func encoded(p api.Point) []byte { return slices.Concat(atRow(p), nRow(p)) }

// decoded is the point of twelve bytes.
func decoded(b []byte) api.Point {
	return api.Point{At: int(binary.BigEndian.Uint32(b)), N: int(binary.BigEndian.Uint64(b[4:]))}
}

// points are all pairs of the edges.
func points() []api.Point {
	var l []api.Point
	for _, at := range edges() {
		for _, n := range edges() {
			l = append(l, api.Point{At: at, N: n})
		}
	}
	return l
}

// offsets are where in the slot each of the three rows of Writes is written.
func offsets() []int { return []int{0, 4, 0} }

// alignsTo fails unless Align answers want.
func alignsTo(t *testing.T, at, step, want int) {
	t.Helper()
	if got := slot.Align(at, step); got != want {
		t.Errorf("Align(%d, %d): %d, want %d", at, step, got, want)
	}
}

// liesAt fails unless Place answers want.
func liesAt(t *testing.T, step, count, at, want int) {
	t.Helper()
	if got := slot.Place(api.Archive{Step: step, Count: count}, at); got != want {
		t.Errorf("Place({%d, %d}, %d): %d, want %d", step, count, at, got, want)
	}
}

// encodesTo fails unless Encode answers want.
func encodesTo(t *testing.T, p api.Point, want []byte) {
	t.Helper()
	if got := slot.Encode(p); !bytes.Equal(got, want) {
		t.Errorf("Encode(%v): %x, want %x", p, got, want)
	}
}

// decodesTo fails unless Decode answers the point.
func decodesTo(t *testing.T, b []byte, want api.Point) {
	t.Helper()
	if got, ok := slot.Decode(b); got != want || !ok {
		t.Errorf("Decode(%x): %v, %t, want %v", b, got, ok, want)
	}
}

// refuses fails unless Decode answers that there is no point.
func refuses(t *testing.T, b []byte) {
	t.Helper()
	if got, ok := slot.Decode(b); got != (api.Point{}) || ok {
		t.Errorf("Decode(%.100x) of %d bytes: %v, %t", b, len(b), got, ok)
	}
}

// areRows fails unless got are the three rows that Writes owes for the point.
func areRows(t *testing.T, p api.Point, got [][]byte) {
	t.Helper()
	want := [][]byte{make([]byte, 4), nRow(p), atRow(p)}
	if !slices.EqualFunc(got, want, bytes.Equal) {
		t.Errorf("Writes(%v): %x, want %x", p, got, want)
	}
}

// spoil writes over all of a result, the memory behind it included.
func spoil(b []byte) {
	b = b[:cap(b)]
	for i := range b {
		b[i] = 0xee
	}
}
