package whead_test

import (
	"encoding/binary"
	"math/big"
	"slices"
	"testing"

	"graticule/api"
	"graticule/whead"
)

// kinds are those of aggregation.
var kinds = []int{api.AggAvg, api.AggSum, api.AggLast, api.AggMax, api.AggMin}

// header is one of so many steps and counts, one after the other.
func header(agg, xff int, numbers ...int) api.Header {
	h := api.Header{Agg: agg, XFF: xff}
	for i := 0; i < len(numbers); i += 2 {
		h.Archives = append(h.Archives, api.Archive{Step: numbers[i], Count: numbers[i+1]})
	}
	return h
}

// chain is a valid header of n archives: each Step is twice the one ahead of it.
func chain(n, count int) api.Header {
	h := header(api.AggAvg, 500000)
	for i := range n {
		h.Archives = append(h.Archives, api.Archive{Step: 1 << i, Count: count})
	}
	return h
}

// steep is a valid header of n archives: each Step is eight times the one ahead of it.
func steep(n, count int) api.Header {
	h := chain(n, count)
	for i := range h.Archives {
		h.Archives[i].Step = 1 << (3 * i)
	}
	return h
}

// greatest is a valid header of n archives and of a file of just MaxFile bytes.
func greatest(n int) api.Header {
	h := chain(n, 10000)
	points := 87380 - n // 16 + 12n + 12(87380 - n) is MaxFile
	h.Archives[0].Count = points - 10000*(n-1)
	for i := 1; i < n; i++ {
		h.Archives[i].Step *= 1 << 11
	}
	return h
}

// with is a copy of h whose archive i is another.
func with(h api.Header, i, step, count int) api.Header {
	h.Archives = slices.Clone(h.Archives)
	h.Archives[i] = api.Archive{Step: step, Count: count}
	return h
}

func times(a, b int) *big.Int { return new(big.Int).Mul(big.NewInt(int64(a)), big.NewInt(int64(b))) }

func atMost(a *big.Int, b int) bool { return a.Cmp(big.NewInt(int64(b))) <= 0 }

// begins is where archive i begins, and where the last ends if there is no archive i.
func begins(h api.Header, i int) *big.Int {
	sum := new(big.Int).Add(big.NewInt(16), times(12, len(h.Archives)))
	for _, a := range h.Archives[:i] {
		sum.Add(sum, times(12, a.Count))
	}
	return sum
}

func spans(h api.Header, i int) *big.Int { return times(h.Archives[i].Step, h.Archives[i].Count) }

// valid asks the chapter's rules one by one, in exact numbers.
func valid(h api.Header) bool {
	n := len(h.Archives)
	if !slices.Contains(kinds, h.Agg) || h.XFF < 0 || h.XFF > 1000000 || n == 0 || n > 8 {
		return false
	}
	for _, a := range h.Archives {
		if a.Step < 1 || a.Step > 16777216 || a.Count < 1 || a.Count > 16777216 {
			return false
		}
	}
	for i := 1; i < n; i++ {
		first, second := h.Archives[i-1], h.Archives[i]
		ratio, rest := second.Step/first.Step, second.Step%first.Step
		if second.Step <= first.Step || rest != 0 || spans(h, i).Cmp(spans(h, i-1)) <= 0 || first.Count < ratio {
			return false
		}
	}
	return atMost(begins(h, n), 1048576) && atMost(spans(h, n-1), 4294967295)
}

// encoded is the bytes of a valid header.
func encoded(h api.Header) []byte {
	n := len(h.Archives)
	numbers := []uint32{uint32(h.Agg), uint32(spans(h, n-1).Uint64()), uint32(h.XFF), uint32(n)}
	for i, a := range h.Archives {
		numbers = append(numbers, uint32(begins(h, i).Uint64()), uint32(a.Step), uint32(a.Count))
	}
	var b []byte
	for _, x := range numbers {
		b = binary.BigEndian.AppendUint32(b, x)
	}
	return b
}

// decoded is the valid header with whose bytes b starts, if there is one.
func decoded(b []byte) (api.Header, bool) {
	for n := 1; n <= 8 && 16+12*n <= len(b); n++ {
		h := api.Header{Agg: word(b, 0), XFF: word(b, 2)}
		for i := range n {
			h.Archives = append(h.Archives, api.Archive{Step: word(b, 5+3*i), Count: word(b, 6+3*i)})
		}
		if valid(h) && slices.Equal(b[:16+12*n], encoded(h)) {
			return h, true
		}
	}
	return api.Header{}, false
}

func word(b []byte, i int) int { return int(binary.BigEndian.Uint32(b[4*i:])) }

func same(a, b api.Header) bool {
	return a.Agg == b.Agg && a.XFF == b.XFF && slices.Equal(a.Archives, b.Archives)
}

// may fails unless every function takes the header as a valid one.
func may(t *testing.T, h api.Header) {
	t.Helper()
	if !valid(h) {
		t.Fatal("no valid header:", h)
	}
	if err := whead.Check(h); err != api.OK {
		t.Errorf("Check(%v): %d", h, err)
	}
	b, err := whead.Encode(h)
	if err != api.OK || !slices.Equal(b, encoded(h)) {
		t.Errorf("Encode(%v): %x, error %d, want %x", h, b, err, encoded(h))
	}
	back(t, encoded(h), h)
	n := len(h.Archives)
	if got, want := whead.Size(h), begins(h, n); want.Cmp(big.NewInt(int64(got))) != 0 {
		t.Errorf("Size(%v): %d, want %d", h, got, want)
	}
	if got, want := whead.Span(h), spans(h, n-1); want.Cmp(big.NewInt(int64(got))) != 0 {
		t.Errorf("Span(%v): %d, want %d", h, got, want)
	}
	for i := range n {
		if got, want := whead.Offset(h, i), begins(h, i); want.Cmp(big.NewInt(int64(got))) != 0 {
			t.Errorf("Offset(%v, %d): %d, want %d", h, i, got, want)
		}
	}
	for _, i := range noPlaces(n) {
		if got := whead.Offset(h, i); got != 0 {
			t.Errorf("Offset(%v, %d): %d, want 0", h, i, got)
		}
	}
}

// noPlaces are numbers of which none is that of one of n archives.
func noPlaces(n int) []int {
	return []int{-1 << 63, -1<<63 + 1, -1 << 32, -n - 1, -n, -2, -1, n, n + 1, 8 + n, 1<<32 - 1, 1 << 32, 1<<32 + n - 1, 1 << 62, 1<<63 - 1}
}

// mayNot fails unless every function refuses the header.
func mayNot(t *testing.T, h api.Header) {
	t.Helper()
	if valid(h) {
		t.Fatal("a valid header:", h)
	}
	if err := whead.Check(h); err != api.ErrArg {
		t.Errorf("Check(%v): %d", h, err)
	}
	if b, err := whead.Encode(h); err != api.ErrArg || len(b) != 0 {
		t.Errorf("Encode(%v): %x, error %d", h, b, err)
	}
	if size, span := whead.Size(h), whead.Span(h); size != 0 || span != 0 {
		t.Errorf("Size, Span of %v: %d, %d", h, size, span)
	}
	for _, i := range append(noPlaces(len(h.Archives)), 0, 1, len(h.Archives)-1) {
		if got := whead.Offset(h, i); got != 0 {
			t.Errorf("Offset(%v, %d): %d", h, i, got)
		}
	}
}

// back fails unless Decode answers h for b.
func back(t *testing.T, b []byte, h api.Header) {
	t.Helper()
	if got, err := whead.Decode(b); err != api.OK || !same(got, h) {
		t.Errorf("Decode(%x): %v, error %d, want %v", b, got, err, h)
	}
}

// refuses fails unless Decode answers for b that there is no header.
func refuses(t *testing.T, b []byte) {
	t.Helper()
	if h, err := whead.Decode(b); err != api.ErrForm || h.Agg != 0 || h.XFF != 0 || len(h.Archives) != 0 {
		t.Errorf("Decode(%.200x): %v, error %d", b, h, err)
	}
}

// asModel fails unless the functions answer for h as the rules of the chapter ask.
func asModel(t *testing.T, h api.Header) bool {
	t.Helper()
	if valid(h) {
		may(t, h)
		return true
	}
	mayNot(t, h)
	return false
}

// decodesAsModel fails unless Decode answers for b as the rules of the chapter ask.
func decodesAsModel(t *testing.T, b []byte) bool {
	t.Helper()
	h, ok := decoded(b)
	if ok {
		back(t, b, h)
	} else {
		refuses(t, b)
	}
	return ok
}
