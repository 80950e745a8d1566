package whead_test

import (
	"bytes"
	"encoding/hex"
	"math"
	"math/rand/v2"
	"slices"
	"strings"
	"testing"

	"graticule/api"
	"graticule/whead"
)

const (
	most  = 1 << 24 // of a Step and of a Count
	large = 1000000 // the greatest XFF
)

// P4.1: what is valid

func TestKindsOfAggregation(t *testing.T) {
	for _, agg := range kinds {
		may(t, header(agg, 500000, 60, 5))
	}
	for _, agg := range []int{0, 6, -1, -2, -5, 7, 8, 255, 256, 257, 1<<16 + 1, 1 << 32, 1<<32 + 1, 1<<32 + 5, -1<<32 + 1, 1<<62 + 2, math.MaxInt, math.MinInt, math.MinInt + 1} {
		mayNot(t, header(agg, 500000, 60, 5))
	}
}

func TestXFF(t *testing.T) {
	for _, xff := range []int{0, 1, 255, 256, 65536, 333333, 500000, large - 1, large} {
		may(t, header(api.AggAvg, xff, 60, 5))
	}
	for _, xff := range []int{-1, -2, large + 1, large + 2, 1 << 20, 1 << 24, 1<<31 - 1, -large, -500000, 1 << 31, 1<<32 - 1, 1 << 32, 1<<32 + 500000, -1 << 32, -1<<32 + 500000, math.MaxInt, math.MinInt, math.MinInt + 1} {
		mayNot(t, header(api.AggAvg, xff, 60, 5))
	}
}

func TestNumberOfArchives(t *testing.T) {
	mayNot(t, api.Header{})
	mayNot(t, header(api.AggAvg, 0))
	mayNot(t, api.Header{Agg: api.AggAvg, Archives: []api.Archive{}})
	mayNot(t, api.Header{Agg: api.AggAvg, Archives: make([]api.Archive, 0, 8)})
	for n := 1; n <= 8; n++ {
		may(t, chain(n, 10))
		may(t, chain(n, 2))
	}
	for _, n := range []int{9, 10, 16, 17} {
		mayNot(t, chain(n, 10))
	}
	mayNot(t, api.Header{Agg: api.AggAvg, Archives: make([]api.Archive, 1<<20)})
	mayNot(t, api.Header{Agg: api.AggAvg, Archives: slices.Repeat([]api.Archive{{Step: 1, Count: 1}}, 1<<16+1)})
}

// wrongNumbers are no Steps and no Counts.
func wrongNumbers() []int {
	return []int{0, -1, -2, -60, -most, most + 1, most + 2, most << 1, 1 << 31, 1<<32 - 1, 1 << 32, 1<<32 + 1, 1<<32 + 60, -1 << 32, -1<<32 + 60, 1 << 60, 1 << 62, 1<<62 + 1, math.MaxInt, math.MaxInt - 1, math.MinInt, math.MinInt + 1, math.MinInt + 60}
}

func TestSteps(t *testing.T) {
	for _, step := range []int{1, 2, 3, 59, 60, 255, 256, 65535, 65536, most - 1, most} {
		may(t, header(api.AggMax, 0, step, 1))
		may(t, header(api.AggMax, 0, step, 255))
	}
	for _, step := range wrongNumbers() {
		mayNot(t, header(api.AggMax, 0, step, 1))
		mayNot(t, header(api.AggMax, 0, step, 5))
	}
	may(t, header(api.AggMin, 0, most/2, 2, most, 2))
	mayNot(t, header(api.AggMin, 0, most, 2, 2*most, 2))
	mayNot(t, header(api.AggMin, 0, (most+2)/2, 2, most+2, 2))
}

func TestCounts(t *testing.T) {
	for _, count := range []int{1, 2, 255, 256, 65535, 65536, 87378, 87379} {
		may(t, header(api.AggMax, 0, 1, count))
		may(t, header(api.AggMax, 0, 49000, count))
	}
	for _, count := range wrongNumbers() {
		mayNot(t, header(api.AggMax, 0, 1, count))
		mayNot(t, header(api.AggMax, 0, 60, count))
	}
	// A Count of 2^24 is in range, but not in a file.
	for _, count := range []int{most, most - 1, most / 2} {
		mayNot(t, header(api.AggMax, 0, 1, count))
	}
}

func TestWrongNumbersInEachPlace(t *testing.T) {
	for n := 1; n <= 8; n++ {
		h := chain(n, 10)
		for i := range n {
			for _, x := range wrongNumbers() {
				mayNot(t, with(h, i, x, 10))
				mayNot(t, with(h, i, 1<<i, x))
				mayNot(t, with(h, i, x, x))
			}
		}
	}
}

// Each row breaks one of the rules of two archives, or none by the least that there is.
func TestTwoArchives(t *testing.T) {
	for _, x := range []struct {
		what    string
		numbers []int
		ok      bool
	}{
		{"equal Steps", []int{60, 5, 60, 6}, false},
		{"equal Steps of 1", []int{1, 5, 1, 6}, false},
		{"equal archives", []int{60, 5, 60, 5}, false},
		{"a smaller Step", []int{60, 5, 1, 1000}, false},
		{"a smaller Step that divides", []int{60, 5, 30, 20}, false},
		{"a Step smaller by one", []int{60, 5, 59, 20}, false},
		{"a Step greater by one, no multiple", []int{2, 10, 3, 10}, false},
		{"no multiple", []int{2, 10, 5, 10}, false},
		{"no multiple either", []int{60, 100, 90, 100}, false},
		{"one more than a multiple", []int{60, 100, 121, 100}, false},
		{"one less than a multiple", []int{60, 100, 119, 100}, false},
		{"a multiple of 1", []int{1, 10, 2, 10}, true},
		{"the least multiple", []int{2, 10, 4, 10}, true},
		{"another multiple", []int{2, 10, 6, 10}, true},
		{"equal spans", []int{1, 60, 60, 1}, false},
		{"equal spans of more", []int{1, 120, 60, 2}, false},
		{"equal spans of greater Steps", []int{60, 60, 3600, 1}, false},
		{"a span smaller by one", []int{1, 61, 60, 1}, false},
		{"a span smaller by far", []int{1, 80000, 2, 1}, false},
		{"a span greater by one", []int{1, 119, 60, 2}, true},
		{"a span greater by one Step of the first", []int{60, 119, 3600, 2}, true},
		{"a Count just enough", []int{1, 60, 60, 2}, true},
		{"a Count one too small", []int{1, 59, 60, 2}, false},
		{"a Count one too small, by a span greater by one", []int{1, 59, 60, 1}, false},
		{"a Count just enough at greater Steps", []int{30, 4, 120, 2}, true},
		{"a Count one too small at greater Steps", []int{30, 3, 120, 2}, false},
		{"a Count of one", []int{1, 1, 2, 1}, false},
		{"a Count of two", []int{1, 2, 2, 2}, true},
		{"the example of the chapter", []int{1, 60, 60, 5}, true},
	} {
		h := header(api.AggSum, 250000, x.numbers...)
		if valid(h) != x.ok {
			t.Fatal("the model of these tests:", x.what)
		}
		asModel(t, h)
		checks(t, x.what, h, x.ok)
	}
}

func checks(t *testing.T, what string, h api.Header, ok bool) {
	t.Helper()
	want := api.ErrArg
	if ok {
		want = api.OK
	}
	if err := whead.Check(h); err != want {
		t.Errorf("%s, %v: %d, want %d", what, h, err, want)
	}
}

// The rules of two archives hold between every two that stand side by side, and between no others.
func TestEveryTwoArchives(t *testing.T) {
	for n := 2; n <= 8; n++ {
		for i := range n {
			h, step := chain(n, 10), 1<<i
			if i > 0 {
				mayNot(t, with(h, i, step/2, 21)) // the Step of the one ahead of it
				mayNot(t, with(h, i, step, 5))    // and its span
				may(t, with(h, i, step, 6))
			}
			if i > 1 {
				mayNot(t, with(h, i, step+1, 10)) // no multiple
			}
			if i < n-1 {
				h, step = steep(n, 16), 1<<(3*i)
				mayNot(t, with(h, i, step, 7)) // one less than its part of the next
				may(t, with(h, i, step, 8))
			}
		}
	}
	// The first has far fewer points than its part of the third.
	may(t, header(api.AggLast, 0, 1, 60, 60, 60, 3600, 60, 86400, 60))
	may(t, header(api.AggLast, 0, 7, 3, 21, 2, 42, 2))
	mayNot(t, header(api.AggLast, 0, 7, 3, 21, 1, 42, 2))
}

func TestGreatestFile(t *testing.T) {
	for n := 1; n <= 8; n++ {
		h := greatest(n)
		may(t, h)
		if size := whead.Size(h); size != api.MaxFile {
			t.Error("not the greatest file:", n, size)
		}
		for i := range n {
			a := h.Archives[i]
			mayNot(t, with(h, i, a.Step, a.Count+1))
			may(t, with(h, i, a.Step, a.Count-1))
		}
	}
	// The bytes of the header and of each of its archives are bytes of the file.
	mayNot(t, header(api.AggAvg, 0, 1, 87380))
	mayNot(t, header(api.AggAvg, 0, 1, 43690, 2, 43689))
	may(t, header(api.AggAvg, 0, 1, 43690, 2, 43688))
	mayNot(t, header(api.AggAvg, 0, 1, 43690, 2, 43690))
}

func TestGreatestSpan(t *testing.T) {
	for _, x := range []struct {
		span    int
		numbers []int
	}{
		{4294967295, []int{65537, 65535}}, {4294967295, []int{16711935, 257}}, {4294967295, []int{65537, 255, 16711935, 257}},
		{4294966784, []int{8388607, 512}}, {4278190080, []int{most, 255}}, {4278190080, []int{65536, 256, most, 255}},
	} {
		h := header(api.AggMin, large, x.numbers...)
		may(t, h)
		if got := whead.Span(h); got != x.span {
			t.Errorf("Span(%v): %d, want %d", h, got, x.span)
		}
	}
	for _, numbers := range [][]int{
		{65536, 65536}, {most, 256}, {most, 257}, {most, most}, {most - 1, 257}, {65537, 65536}, {65538, 65535}, {131072, 32768},
		{65536, 256, most, 256}, {1, 256, 256, 256, 65536, 256, most, 256}, {65536, 65000, 131072, 20000, most, 500}, {16711935, 258},
	} {
		mayNot(t, header(api.AggMin, large, numbers...))
	}
}

// Products and sums of these hold no int, or an int again that would be in range.
func TestNumbersBeyondAnInt(t *testing.T) {
	great := []int{1 << 31, 1 << 32, 1<<32 + 1, 1 << 33, 1 << 59, 1 << 60, 1 << 61, 1 << 62, 1<<62 + 1, 1<<62 + 60, 3 << 61, math.MaxInt, math.MinInt, math.MinInt + 1, -1 << 62, -1 << 32, -1, 768614336404564651, 1537228672809129302}
	small := []int{-60, -2, -1, 0, 1, 2, 4, 60}
	for _, a := range append(great, small...) {
		for _, b := range great {
			mayNot(t, header(api.AggAvg, 0, a, b))
			mayNot(t, header(api.AggAvg, 0, b, a))
			mayNot(t, header(api.AggAvg, 0, 1, 60, a, b))
			mayNot(t, header(api.AggAvg, 0, a, b, 60, 5))
			mayNot(t, header(api.AggAvg, 0, 1, a, 60, b))
			mayNot(t, header(api.AggAvg, 0, a, 60, b, 60))
			mayNot(t, header(a, b, 60, 5))
			mayNot(t, header(api.AggAvg, b, 60, 5))
			mayNot(t, header(b, 0, 60, 5))
		}
	}
	// Eight Counts whose sum holds an int no more, and eight whose sum times twelve doesn't.
	for _, count := range []int{1 << 60, 1 << 61, math.MaxInt / 8, math.MaxInt / 12, math.MaxInt / 96, 1<<61 + 10} {
		mayNot(t, chain(8, count))
	}
	for _, step := range []int{0, -1, -60, math.MinInt} {
		mayNot(t, header(api.AggAvg, 0, step, 60, 60, 5))
		mayNot(t, header(api.AggAvg, 0, step, 60, math.MinInt, 5))
		mayNot(t, header(api.AggAvg, 0, -1, 60, step, 1))
		mayNot(t, header(api.AggAvg, 0, step, -60, step, -61))
	}
}

func TestAllShortListsOfArchives(t *testing.T) {
	var all []api.Archive
	for step := range 7 {
		for count := range 7 {
			all = append(all, api.Archive{Step: step, Count: count})
		}
	}
	held := 0
	for _, a := range all {
		for _, b := range all {
			h := api.Header{Agg: api.AggSum, XFF: 1, Archives: []api.Archive{a, b}}
			if asModel(t, h) {
				held++
			}
			if !valid(api.Header{Agg: api.AggSum, Archives: h.Archives[:1]}) {
				continue
			}
			for _, c := range all {
				if asModel(t, api.Header{Agg: api.AggMin, XFF: large, Archives: []api.Archive{a, b, c}}) {
					held++
				}
			}
		}
	}
	if held < 300 {
		t.Error("too few valid headers were met:", held)
	}
}

// randomHeader is valid more often than not.
func randomHeader(r *rand.Rand) api.Header {
	h := api.Header{Agg: 1 + r.IntN(5), XFF: r.IntN(large + 1)}
	step := 1 + r.IntN(60)
	for n := 1 + r.IntN(8); n > 0; n-- {
		h.Archives = append(h.Archives, api.Archive{Step: step, Count: 1 + r.IntN(1<<(4+r.IntN(12)))})
		step *= 1 + r.IntN(9)
	}
	for i := 1; i < len(h.Archives) && r.IntN(5) > 0; i++ { // mends most of what chance has broken
		a, b := &h.Archives[i-1], &h.Archives[i]
		a.Count = max(a.Count, b.Step/a.Step)
		b.Count = max(b.Count, a.Step*a.Count/b.Step+1)
	}
	return h
}

func TestManyHeaders(t *testing.T) {
	r := rand.New(rand.NewPCG(4, 1))
	held, refused := 0, 0
	for range 40000 {
		if asModel(t, randomHeader(r)) {
			held++
		} else {
			refused++
		}
	}
	if held < 4000 || refused < 4000 {
		t.Error("too few of a sort:", held, refused)
	}
}

// P4.1: Encode

func TestBytes(t *testing.T) {
	for _, x := range []struct {
		h    api.Header
		want string
	}{
		{header(api.AggSum, 0, 1, 60, 60, 5), "00000002 0000012c 00000000 00000002  00000028 00000001 0000003c  000002f8 0000003c 00000005"},
		{header(api.AggAvg, 1, 1, 1), "00000001 00000001 00000001 00000001  0000001c 00000001 00000001"},
		{header(api.AggLast, 0x54321, 0x123456, 0x89), "00000003 09be0206 00054321 00000001  0000001c 00123456 00000089"},
		{header(api.AggMax, large, most, 255), "00000004 ff000000 000f4240 00000001  0000001c 01000000 000000ff"},
		{header(api.AggMin, 0x0a0b0c, 65537, 65535), "00000005 ffffffff 000a0b0c 00000001  0000001c 00010001 0000ffff"},
		{header(api.AggAvg, 500000, 1, 0x12345, 7, 0x3003, 0x700, 0x200), "00000001 000e0000 0007a120 00000003  00000034 00000001 00012345  000da770 00000007 00003003  000fe794 00000700 00000200"},
	} {
		want, err := hex.DecodeString(strings.ReplaceAll(x.want, " ", ""))
		if err != nil {
			t.Fatal(err)
		}
		if got, err := whead.Encode(x.h); err != api.OK || !bytes.Equal(got, want) {
			t.Errorf("Encode(%v): %x, error %d, want %x", x.h, got, err, want)
		}
		back(t, want, x.h)
	}
}

// samples are valid headers of every number of archives.
func samples() []api.Header {
	l := []api.Header{
		header(api.AggSum, 0, 1, 60, 60, 5), header(api.AggAvg, 1, 1, 1), header(api.AggMin, large, 65537, 65535), header(api.AggMax, large, most, 255),
		header(api.AggLast, 0x54321, 0x123456, 0x89), header(api.AggAvg, 500000, 1, 0x12345, 7, 0x3003, 0x700, 0x200), header(api.AggLast, 256, 1, 256, 256, 256, 65536, 256),
	}
	for n := 1; n <= 8; n++ {
		l = append(l, chain(n, 10), steep(n, 16), greatest(n))
	}
	return l
}

// joined is all the rows one behind the other, in memory of its own.
func joined(rows ...[]byte) []byte { return slices.Concat(rows...) }

// numbersThatFollow is where the numbers of a header of n archives stand that follow from the others: the span and the offsets.
func numbersThatFollow(n int) []int {
	l := []int{4}
	for i := range n {
		l = append(l, 16+12*i)
	}
	return l
}

// patched is b with another number at a place.
func patched(b []byte, at int, n uint32) []byte {
	return joined(b[:at], []byte{byte(n >> 24), byte(n >> 16), byte(n >> 8), byte(n)}, b[at+4:])
}

// P4.1, P4.3: Decode

func TestDecodeOfWhatIsTooShort(t *testing.T) {
	refuses(t, nil)
	refuses(t, []byte{})
	for _, h := range samples() {
		b := encoded(h)
		for n := range len(b) {
			refuses(t, b[:n])
			refuses(t, bytes.Clone(b[:n]))
		}
	}
	for n := range 200 {
		refuses(t, make([]byte, n))
		refuses(t, bytes.Repeat([]byte{255}, n))
		refuses(t, bytes.Repeat([]byte{1}, n))
	}
}

func TestDecodeWithBytesBehind(t *testing.T) {
	for _, h := range samples() {
		b := encoded(h)
		for _, behind := range [][]byte{nil, {}, {0}, {255}, {1, 2, 3}, b, b[:11], make([]byte, 12), bytes.Repeat([]byte{255}, 100), encoded(chain(8, 10)), make([]byte, 1<<16)} {
			back(t, joined(b, behind), h)
		}
		for x := range 256 {
			back(t, joined(b, []byte{byte(x)}), h)
		}
		// The whole file of a header starts with it.
		back(t, joined(b, make([]byte, whead.Size(h)-len(b))), h)
	}
}

func TestDecodeWithBytesAhead(t *testing.T) {
	for _, h := range samples() {
		b := encoded(h)
		refuses(t, joined([]byte{0}, b))
		refuses(t, joined([]byte{0, 0, 0, 0}, b))
		refuses(t, b[1:])
		refuses(t, b[4:])
		refuses(t, []byte(hex.EncodeToString(b)))
	}
}

func TestDecodeOfAnotherSpanOrOffset(t *testing.T) {
	for _, h := range samples() {
		b := encoded(h)
		for _, at := range numbersThatFollow(len(h.Archives)) {
			was := uint32(word(b[at:], 0))
			for bit := range 32 {
				refuses(t, patched(b, at, was^1<<bit))
			}
			for _, n := range []uint32{0, 1, 16, 28, 40, was + 1, was - 1, was + 12, was - 12, 2 * was, was + 1<<31, math.MaxUint32} {
				if n != was {
					refuses(t, patched(b, at, n))
					refuses(t, joined(patched(b, at, n), make([]byte, 1000)))
					refuses(t, joined(patched(b, at, n), b)) // the right one comes too late
				}
			}
		}
	}
}

func TestDecodeOfAnotherNumberOfArchives(t *testing.T) {
	for _, h := range samples() {
		b := encoded(h)
		for _, n := range []int{0, 1, 2, 3, 7, 8, 9, 10, 255, 256, 257, 1 << 16, 1<<24 + 1, 1 << 28, 357913942, 1431655766, 1<<31 - 1, 1 << 31, 1<<32 - 2, 1<<32 - 1} {
			if n == len(h.Archives) {
				continue
			}
			refuses(t, patched(b, 12, uint32(n)))
			refuses(t, joined(patched(b, 12, uint32(n)), make([]byte, 300)))
			refuses(t, joined(patched(b, 12, uint32(n)), b[16:], b[16:], b[16:], b[16:]))
		}
	}
}

// Nine archives of which each two may stand side by side, with all that follows from them.
func TestDecodeOfTooManyArchives(t *testing.T) {
	for n := 9; n <= 12; n++ {
		refuses(t, encoded(chain(n, 10)))
	}
	back(t, encoded(chain(8, 10)), chain(8, 10))
}

// The encoding of a header that isn't valid is nothing, but its bytes can be written down.
func TestDecodeOfHeadersThatAreNotValid(t *testing.T) {
	for _, h := range []api.Header{
		header(0, 0, 60, 5), header(6, 0, 60, 5), header(257, 0, 60, 5), header(api.AggAvg, large+1, 60, 5), header(api.AggAvg, 1<<32-1, 60, 5), header(api.AggAvg, 1<<24, 60, 5),
		header(api.AggAvg, 0, 0, 5), header(api.AggAvg, 0, 60, 0), header(api.AggAvg, 0, 0, 0), header(api.AggAvg, 0, most+1, 1), header(api.AggAvg, 0, 1<<31, 1), header(api.AggAvg, 0, 1<<32-1, 1),
		header(api.AggAvg, 0, 1, most), header(api.AggAvg, 0, 1, 87380), header(api.AggAvg, 0, 65536, 65536), header(api.AggAvg, 0, 1<<31, 2), header(api.AggAvg, 0, 1<<16, 1<<16+1),
		header(api.AggAvg, 0, 60, 5, 60, 6), header(api.AggAvg, 0, 60, 5, 90, 6), header(api.AggAvg, 0, 1, 60, 60, 1), header(api.AggAvg, 0, 1, 59, 60, 5), header(api.AggAvg, 0, 60, 5, 0, 6), header(api.AggAvg, 0, 0, 5, 60, 6),
		header(api.AggAvg, 0, 1, 43690, 2, 43689), header(api.AggAvg, 0, 65536, 256, most, 256), header(api.AggAvg, 0, 1, 1<<32-1, 2, 1<<32-1),
	} {
		mayNot(t, h)
		refuses(t, encoded(h))
		refuses(t, joined(encoded(h), make([]byte, 100)))
	}
}

// turns are the bits to turn in each byte: all of a short header, fewer of a long one.
func turns(archives int) []byte {
	if archives > 2 {
		return []byte{1, 2, 3, 4, 8, 16, 32, 64, 128, 255}
	}
	var l []byte
	for x := range 255 {
		l = append(l, byte(x+1))
	}
	return l
}

func TestEachByteTurned(t *testing.T) {
	for _, h := range samples() {
		b := joined(encoded(h), []byte("any bytes behind it"))
		n := 16 + 12*len(h.Archives)
		for at := range b {
			for _, x := range turns(len(h.Archives)) {
				turned := bytes.Clone(b)
				turned[at] ^= x
				ok := decodesAsModel(t, turned)
				if at >= n && !ok {
					t.Fatal("a byte behind the header:", h, at, x)
				}
			}
		}
	}
}

// In a header of one archive nothing but the kind and the XFF can be another without something else being another too.
func TestEachByteTurnedOfOneArchive(t *testing.T) {
	h := header(api.AggSum, 500000, 60, 5)
	b := encoded(h)
	for at := range b {
		for x := range 256 {
			turned := bytes.Clone(b)
			turned[at] = byte(x)
			want := h
			want.Agg, want.XFF = word(turned, 0), word(turned, 2)
			unturned := byte(x) == b[at]
			if unturned || at == 3 && 1 <= x && x <= 5 || at >= 8 && at < 12 && want.XFF <= large {
				back(t, turned, want)
			} else {
				refuses(t, turned)
			}
		}
	}
}

func TestDecodeOfAnyBytes(t *testing.T) {
	r := rand.New(rand.NewPCG(4, 2))
	for range 20000 {
		b := make([]byte, r.IntN(130))
		for i := range b {
			b[i] = byte(r.IntN(256) >> r.IntN(9))
		}
		decodesAsModel(t, b)
	}
	held := 0
	for range 20000 {
		b := encoded(chain(1+r.IntN(8), 3+r.IntN(100)))
		for range 1 + r.IntN(3) {
			b[r.IntN(len(b))] ^= 1 << r.IntN(8)
		}
		if decodesAsModel(t, b) {
			held++
		}
	}
	if held < 100 {
		t.Error("too few bytes of headers were met:", held)
	}
}

func TestVeryManyBytes(t *testing.T) {
	refuses(t, make([]byte, 1<<24))
	refuses(t, bytes.Repeat([]byte{0, 0, 0, 1}, 1<<22))
	h := greatest(8)
	back(t, joined(encoded(h), make([]byte, 1<<24)), h)
}

// P4.2

func TestSizeOffsetAndSpan(t *testing.T) {
	for _, x := range []struct {
		h          api.Header
		size, span int
		offsets    []int
	}{
		{header(api.AggSum, 0, 1, 60, 60, 5), 820, 300, []int{40, 760}},
		{header(api.AggAvg, 500000, 1, 1), 40, 1, []int{28}},
		{header(api.AggAvg, 500000, 60, 1440), 17308, 86400, []int{28}},
		{header(api.AggMax, 0, 1, 87379), 1048576, 87379, []int{28}},
		{header(api.AggMax, 0, 65537, 65535), 786448, 4294967295, []int{28}},
		{header(api.AggMin, 0, 10, 6, 60, 60, 3600, 24), 52 + 12*90, 86400, []int{52, 124, 844}},
		{header(api.AggLast, 0, 1, 2, 2, 2, 4, 2, 8, 2, 16, 2, 32, 2, 64, 2, 128, 2), 304, 256, []int{112, 136, 160, 184, 208, 232, 256, 280}},
	} {
		if got := whead.Size(x.h); got != x.size {
			t.Errorf("Size(%v): %d, want %d", x.h, got, x.size)
		}
		if got := whead.Span(x.h); got != x.span {
			t.Errorf("Span(%v): %d, want %d", x.h, got, x.span)
		}
		for i, want := range x.offsets {
			if got := whead.Offset(x.h, i); got != want {
				t.Errorf("Offset(%v, %d): %d, want %d", x.h, i, got, want)
			}
		}
		for _, i := range noPlaces(len(x.h.Archives)) {
			if got := whead.Offset(x.h, i); got != 0 {
				t.Errorf("Offset(%v, %d): %d, want 0", x.h, i, got)
			}
		}
	}
}

// The header, and archive behind archive, are the whole file: nothing lies between and nothing behind.
func TestArchivesFillTheFile(t *testing.T) {
	for _, h := range samples() {
		b, err := whead.Encode(h)
		if err != api.OK {
			t.Fatal(h, err)
		}
		at := len(b)
		for i, a := range h.Archives {
			if got := whead.Offset(h, i); got != at {
				t.Errorf("Offset(%v, %d): %d, want %d", h, i, got, at)
			}
			at += 12 * a.Count
		}
		if got := whead.Size(h); got != at {
			t.Errorf("Size(%v): %d, want %d", h, got, at)
		}
		last := h.Archives[len(h.Archives)-1]
		if got := whead.Span(h); got != last.Step*last.Count {
			t.Errorf("Span(%v): %d", h, got)
		}
	}
}

// P4.3

func TestThereAndBack(t *testing.T) {
	r := rand.New(rand.NewPCG(4, 3))
	held := 0
	for range 40000 {
		h := randomHeader(r)
		b, err := whead.Encode(h)
		if err != api.OK {
			continue
		}
		held++
		back(t, b, h)
		back(t, joined(b, []byte{byte(r.IntN(256))}, b), h)
	}
	if held < 4000 {
		t.Error("too few valid headers:", held)
	}
	for _, h := range samples() {
		for _, agg := range kinds {
			for _, xff := range []int{0, 1, 255, 256, 65535, 65536, large - 1, large} {
				h.Agg, h.XFF = agg, xff
				b, err := whead.Encode(h)
				if err != api.OK {
					t.Fatal(h, err)
				}
				back(t, b, h)
			}
		}
	}
}

// W6: neither what is handed in nor the memory behind it is another afterwards.
func TestArgumentsStay(t *testing.T) {
	l := []api.Archive{{Step: -1, Count: -2}, {Step: 1, Count: 60}, {Step: 60, Count: 5}, {Step: -3, Count: -4}, {Step: 120, Count: 50}}
	was := slices.Clone(l)
	for _, piece := range [][]api.Archive{l[1:3], l[1:3:3], l[1:2], l[0:3], l[1:], l[1:1], l} {
		h := api.Header{Agg: api.AggSum, XFF: 7, Archives: piece}
		asModel(t, h)
		if !slices.Equal(l, was) {
			t.Fatal("archives were written to:", l)
		}
	}
	for _, h := range samples() {
		b := joined([]byte("ahead"), encoded(h), []byte("behind it"))
		was := bytes.Clone(b)
		n := 5 + 16 + 12*len(h.Archives)
		for end := range len(b) - 5 {
			whead.Decode(b[5 : 5+end])
		}
		back(t, b[5:n], h)
		if !bytes.Equal(b, was) {
			t.Fatal("bytes were written to:", b)
		}
	}
}

// W6, W7: no result shares memory with an argument or with another result, and none is kept.
func TestResultsAreNew(t *testing.T) {
	for _, h := range samples() {
		want := encoded(h)
		given := api.Header{Agg: h.Agg, XFF: h.XFF, Archives: slices.Clone(h.Archives)}
		first, _ := whead.Encode(given)
		second, _ := whead.Encode(given)
		spoil(first)
		if !bytes.Equal(second, want) {
			t.Fatal("two encodings share memory:", h)
		}
		for i := range given.Archives {
			given.Archives[i] = api.Archive{Step: -1, Count: -1}
		}
		if !bytes.Equal(second, want) {
			t.Fatal("an encoding changed with its header:", h)
		}
		b := bytes.Clone(want)
		one, _ := whead.Decode(b)
		two, _ := whead.Decode(b)
		spoil(b)
		all := one.Archives[:cap(one.Archives)]
		for i := range all {
			all[i] = api.Archive{Step: -1, Count: -1}
		}
		if !same(two, h) {
			t.Fatal("a header shares memory:", h, two)
		}
		may(t, h)
	}
}

// spoil writes over all of a result, the memory behind it included.
func spoil(b []byte) {
	b = b[:cap(b)]
	for i := range b {
		b[i] = 0xee
	}
}

// W2: the same arguments have the same results, whatever was asked between.
func TestSameAnswersAgain(t *testing.T) {
	l := samples()
	for range 3 {
		for _, h := range l {
			may(t, h)
			mayNot(t, with(h, 0, 0, 5))
			refuses(t, encoded(h)[1:])
		}
		slices.Reverse(l)
	}
}
