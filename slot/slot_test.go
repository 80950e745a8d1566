package slot_test

import (
	"bytes"
	"encoding/hex"
	"math"
	"math/rand/v2"
	"slices"
	"strings"
	"testing"

	"graticule/api"
	"graticule/slot"
)

// P5.1: Align

func TestAlign(t *testing.T) {
	for _, x := range []struct{ at, step, want int }{
		{0, 1, 0}, {0, 2, 0}, {0, 60, 0}, {0, math.MaxInt, 0},
		{1, 1, 1}, {1, 2, 0}, {1, 60, 0}, {2, 2, 2}, {3, 2, 2},
		{59, 60, 0}, {60, 60, 60}, {61, 60, 60}, {119, 60, 60}, {120, 60, 120}, {359, 60, 300}, {360, 60, 360},
		{100, 7, 98}, {97, 7, 91}, {98, 7, 98}, {99, 7, 98},
		{5, 6, 0}, {5, 1000, 0}, {1000, 1 << 24, 0}, {1<<24 - 1, 1 << 24, 0}, {1 << 24, 1 << 24, 1 << 24}, {1<<24 + 1, 1 << 24, 1 << 24},
		{1700000000, 60, 1699999980}, {1700000000, 3600, 1699999200}, {1700000000, 86400, 1699920000},
		{maxTime, 1, maxTime}, {maxTime, 2, maxTime - 1}, {maxTime, 60, 4294967280}, {maxTime, 65536, 4294901760}, {maxTime, 65537, maxTime}, {maxTime, 1 << 24, 4278190080},
		{maxTime, maxTime - 1, maxTime - 1}, {maxTime, maxTime, maxTime}, {maxTime, maxTime + 1, 0}, {maxTime + 1, 60, 4294967280}, {maxTime + 1, maxTime, maxTime}, {1 << 33, 1 << 32, 1 << 33},
		{math.MaxInt, 1, math.MaxInt}, {math.MaxInt, 2, math.MaxInt - 1}, {math.MaxInt, 10, math.MaxInt - 7}, {math.MaxInt, 60, math.MaxInt - 7},
		{math.MaxInt, 1 << 62, 1 << 62}, {math.MaxInt, math.MaxInt - 1, math.MaxInt - 1}, {math.MaxInt, math.MaxInt, math.MaxInt}, {math.MaxInt - 1, math.MaxInt, 0},
	} {
		alignsTo(t, x.at, x.step, x.want)
	}
}

func TestAlignAroundMultiples(t *testing.T) {
	for _, step := range []int{1, 2, 3, 7, 10, 60, 255, 256, 3600, 65536, 86400, 1<<24 - 1, 1 << 24} {
		for _, k := range []int{1, 2, 3, 9, 60, 255, 256} {
			at := k * step
			alignsTo(t, at-1, step, at-step)
			alignsTo(t, at, step, at)
			alignsTo(t, at+step-1, step, at)
			alignsTo(t, at+step, step, at+step)
			if step > 1 {
				alignsTo(t, at+1, step, at)
			} else {
				alignsTo(t, at+1, step, at+1)
			}
		}
	}
}

// Every number between the answer and the time is asked, and none is a multiple.
func TestAlignIsTheGreatestMultiple(t *testing.T) {
	for step := 1; step <= 70; step++ {
		for at := range 300 {
			want := at
			for want%step != 0 {
				want--
			}
			alignsTo(t, at, step, want)
		}
	}
}

func TestAlignToNoStep(t *testing.T) {
	for _, step := range below1(append(edges(), scattered(200, 3)...)) {
		for _, at := range edges() {
			alignsTo(t, at, step, at)
		}
	}
}

func TestAlignOfNegativeTimes(t *testing.T) {
	for _, at := range []int{-1, -2, -59, -60, -61, -120, -maxTime, -maxTime - 1, math.MinInt + 1, math.MinInt} {
		for _, step := range append(edges(), scattered(200, 5)...) {
			alignsTo(t, at, step, at)
		}
	}
}

func TestAlignInExactNumbers(t *testing.T) {
	times, steps := append(edges(), scattered(400, 7)...), append(edges(), scattered(400, 11)...)
	for _, at := range times {
		for _, step := range steps {
			alignsTo(t, at, step, aligned(at, step))
		}
	}
}

// An aligned time stays where it is.
func TestAlignTwice(t *testing.T) {
	for _, at := range scattered(1000, 13) {
		for _, step := range edges() {
			once := slot.Align(at, step)
			alignsTo(t, once, step, once)
		}
	}
}

// P5.1: Place

func TestPlace(t *testing.T) {
	for _, x := range []struct{ step, count, at, want int }{
		{60, 5, 359, 0}, {60, 5, 0, 0}, {60, 5, 1, 0}, {60, 5, 59, 0}, {60, 5, 60, 1}, {60, 5, 61, 1}, {60, 5, 119, 1}, {60, 5, 120, 2}, {60, 5, 239, 3}, {60, 5, 240, 4},
		{60, 5, 299, 4}, {60, 5, 300, 0}, {60, 5, 301, 0}, {60, 5, 360, 1}, {60, 5, 599, 4}, {60, 5, 600, 0},
		{1, 1, 0, 0}, {1, 1, 1, 0}, {1, 1, 12345, 0}, {60, 1, 12345, 0}, {1, 60, 0, 0}, {1, 60, 1, 1}, {1, 60, 59, 59}, {1, 60, 60, 0}, {1, 60, 61, 1}, {1, 60, 100, 40},
		{1, 2, 0, 0}, {1, 2, 1, 1}, {1, 2, 2, 0}, {2, 2, 3, 1}, {1000, 7, 999, 0}, {1000, 7, 7000, 0}, {1000, 7, 6999, 6}, {1 << 24, 255, 1<<24 - 1, 0}, {1 << 24, 255, 1 << 24, 1},
		{60, 1440, 1700000000, 1333}, {3600, 24, 1700000000, 22}, {10, 8640, 1700000000, 8000},
		{1, 1 << 24, maxTime, 1<<24 - 1}, {1, maxTime, maxTime, 0}, {1, maxTime + 1, maxTime, maxTime}, {65537, 65535, maxTime, 0}, {65537, 65535, maxTime - 1, 65534}, {1 << 24, 1 << 24, maxTime, 255}, {60, 5, maxTime, 3}, {60, 5, maxTime + 1, 3},
		{1, math.MaxInt, math.MaxInt, 0}, {1, math.MaxInt, math.MaxInt - 1, math.MaxInt - 1}, {2, math.MaxInt, math.MaxInt, 1<<62 - 1}, {math.MaxInt, math.MaxInt, math.MaxInt, 1}, {math.MaxInt, 1, math.MaxInt, 0}, {math.MaxInt, 2, math.MaxInt, 1}, {math.MaxInt, 2, math.MaxInt - 1, 0}, {1 << 62, 1 << 62, math.MaxInt, 1},
	} {
		liesAt(t, x.step, x.count, x.at, x.want)
	}
}

// The ring is walked second by second, three times round.
func TestPlaceGoesRound(t *testing.T) {
	for _, step := range []int{1, 2, 3, 7, 60} {
		for _, count := range []int{1, 2, 3, 5, 12} {
			at := 0
			for range 3 {
				for place := range count {
					for range step {
						liesAt(t, step, count, at, place)
						at++
					}
				}
			}
		}
	}
}

func TestLastPlaceOfARoundAndFirstOfTheNext(t *testing.T) {
	for _, step := range []int{1, 2, 60, 3600, 65537, 1 << 24} {
		for _, count := range []int{1, 2, 5, 255, 1440, 65535} {
			for _, round := range []int{1, 2, 3, 100, 1 << 20} {
				next := step * count * round
				liesAt(t, step, count, next-1, count-1)
				liesAt(t, step, count, next-step, count-1)
				liesAt(t, step, count, next-step-1, max(count-2, 0))
				liesAt(t, step, count, next, 0)
				liesAt(t, step, count, next+step-1, 0)
				liesAt(t, step, count, next+step, 1%count)
			}
		}
	}
}

func TestPlaceOfWrongNumbers(t *testing.T) {
	all := append(edges(), scattered(60, 17)...)
	for _, wrong := range below1(all) {
		for _, at := range all {
			for _, number := range all {
				liesAt(t, wrong, number, at, 0)
				liesAt(t, number, wrong, at, 0)
			}
		}
		if wrong < 0 {
			for _, number := range positive(all) {
				liesAt(t, number, 5, wrong, 0)
				liesAt(t, 60, number, wrong, 0)
			}
		}
	}
}

func TestPlaceInExactNumbers(t *testing.T) {
	numbers := append(edges(), scattered(60, 19)...)
	for _, at := range append(edges(), scattered(100, 23)...) {
		for _, step := range numbers {
			for _, count := range numbers {
				a := api.Archive{Step: step, Count: count}
				liesAt(t, step, count, at, placed(a, at))
			}
		}
	}
}

// P5.2: Encode

// unhex is the bytes that a text of hex digits and gaps tells.
func unhex(t *testing.T, text string) []byte {
	t.Helper()
	b, err := hex.DecodeString(strings.ReplaceAll(text, " ", ""))
	if err != nil {
		t.Fatal(err)
	}
	return b
}

func TestEncode(t *testing.T) {
	for _, x := range []struct {
		at, n int
		want  string
	}{
		{0, 0, "00000000 0000000000000000"},
		{1, 1, "00000001 0000000000000001"},
		{0, 1, "00000000 0000000000000001"},
		{1, 0, "00000001 0000000000000000"},
		{0x01020304, 0x05060708090a0b0c, "01020304 05060708090a0b0c"},
		{0x7f80feff, 0x123456789abcdef0, "7f80feff 123456789abcdef0"},
		{255, 256, "000000ff 0000000000000100"},
		{256, 255, "00000100 00000000000000ff"},
		{99, 5000000, "00000063 00000000004c4b40"},
		{1700000000, -1, "6553f100 ffffffffffffffff"},
		{1 << 31, -2, "80000000 fffffffffffffffe"},
		{1<<31 - 1, -256, "7fffffff ffffffffffffff00"},
		{60, -1000000, "0000003c fffffffffff0bdc0"},
		{60, maxN, "0000003c 4000000000000000"},
		{60, -maxN, "0000003c c000000000000000"},
		{60, maxN + 1, "0000003c 4000000000000001"},
		{60, math.MaxInt, "0000003c 7fffffffffffffff"},
		{60, math.MinInt, "0000003c 8000000000000000"},
		{60, math.MinInt + 1, "0000003c 8000000000000001"},
		{maxTime - 1, 7, "fffffffe 0000000000000007"},
		{maxTime, 7, "ffffffff 0000000000000007"},
		{maxTime, math.MaxInt, "ffffffff 7fffffffffffffff"},
	} {
		encodesTo(t, api.Point{At: x.at, N: x.n}, unhex(t, x.want))
	}
}

func TestEncodeOfAnAtOutsideTheRange(t *testing.T) {
	for _, n := range edges() {
		for _, at := range []int{-1, -2, -60, -255, -256, -1 << 31, -maxTime, -1 << 32, -1<<32 + 5, -1 << 62, math.MinInt + 1, math.MinInt} {
			encodesTo(t, api.Point{At: at, N: n}, slices.Concat([]byte{0, 0, 0, 0}, nRow(api.Point{N: n})))
		}
		for _, at := range []int{maxTime + 1, maxTime + 2, 1<<32 + 5, 1<<32 + 1700000000, 1 << 33, 1 << 40, 1 << 62, math.MaxInt - 1, math.MaxInt} {
			encodesTo(t, api.Point{At: at, N: n}, slices.Concat([]byte{255, 255, 255, 255}, nRow(api.Point{N: n})))
		}
	}
}

func TestEncodeOfManyPoints(t *testing.T) {
	for _, p := range points() {
		encodesTo(t, p, encoded(p))
	}
	ats, ns := scattered(5000, 29), scattered(5000, 31)
	for i := range ats {
		p := api.Point{At: ats[i], N: ns[len(ns)-1-i]}
		encodesTo(t, p, encoded(p))
	}
}

// Each byte of each number has its own place.
func TestEachByteOfEncode(t *testing.T) {
	for x := range 256 {
		for i := range 4 {
			want := make([]byte, 12)
			want[i] = byte(x)
			encodesTo(t, api.Point{At: x << (24 - 8*i)}, want)
		}
		for i := range 8 {
			want := make([]byte, 12)
			want[4+i] = byte(x)
			encodesTo(t, api.Point{N: int(uint64(x) << (56 - 8*i))}, want)
		}
	}
}

// P5.2: Decode

func TestDecodeOfAnotherLength(t *testing.T) {
	refuses(t, nil)
	refuses(t, []byte{})
	for n := range 200 {
		if n == 12 {
			continue
		}
		for _, x := range []byte{0, 1, 0x7f, 0x80, 255} {
			refuses(t, bytes.Repeat([]byte{x}, n))
		}
	}
	for _, p := range []api.Point{{}, {At: 1, N: 1}, {At: 0x01020304, N: 0x05060708090a0b0c}, {At: maxTime, N: -1}, {At: 1700000000, N: math.MinInt}} {
		b := encoded(p)
		for n := range 12 {
			refuses(t, b[:n])
			refuses(t, b[:n:n])
			refuses(t, b[12-n:])
		}
		for n := 1; n < 30; n++ {
			refuses(t, slices.Concat(b, make([]byte, n)))
			refuses(t, slices.Concat(make([]byte, n), b))
		}
		refuses(t, slices.Concat(b, b))
		refuses(t, []byte(hex.EncodeToString(b)))
	}
	refuses(t, make([]byte, 1<<8+12))
	refuses(t, make([]byte, 1<<16+12))
	refuses(t, make([]byte, 1<<24))
}

func TestDecode(t *testing.T) {
	for _, x := range []struct {
		text  string
		at, n int
	}{
		{"00000000 0000000000000000", 0, 0},
		{"00000001 0000000000000001", 1, 1},
		{"01020304 05060708090a0b0c", 0x01020304, 0x05060708090a0b0c},
		{"00000063 00000000004c4b40", 99, 5000000},
		{"6553f100 ffffffffffffffff", 1700000000, -1},
		{"80000000 fffffffffffffffe", 1 << 31, -2},
		{"80000001 00000000ffffffff", 1<<31 + 1, 1<<32 - 1},
		{"fffffffe 8000000000000001", maxTime - 1, math.MinInt + 1},
		{"ffffffff ffffffffffffffff", maxTime, -1},
		// No point within the limits of values makes these.
		{"0000003c 4000000000000001", 60, maxN + 1},
		{"0000003c bfffffffffffffff", 60, -maxN - 1},
		{"0000003c 7fffffffffffffff", 60, math.MaxInt},
		{"0000003c 8000000000000000", 60, math.MinInt},
		{"00000000 8000000000000000", 0, math.MinInt},
		{"ffffffff 8000000000000000", maxTime, math.MinInt},
	} {
		decodesTo(t, unhex(t, x.text), api.Point{At: x.at, N: x.n})
	}
}

func TestEachByteTurned(t *testing.T) {
	for _, p := range []api.Point{{}, {At: 0x01020304, N: 0x05060708090a0b0c}, {At: 1700000000, N: -1}, {At: maxTime, N: math.MinInt}, {At: 60, N: maxN}} {
		for at := range 12 {
			for x := range 256 {
				b := encoded(p)
				b[at] = byte(x)
				decodesTo(t, b, decoded(b))
				encodesTo(t, decoded(b), b)
			}
		}
	}
}

func TestDecodeOfAnyTwelveBytes(t *testing.T) {
	r := rand.New(rand.NewPCG(5, 2))
	for range 20000 {
		b := make([]byte, 12)
		for i := range b {
			b[i] = byte(r.IntN(256) >> r.IntN(9))
		}
		decodesTo(t, b, decoded(b))
		got, _ := slot.Decode(b)
		encodesTo(t, got, b)
	}
}

// A row is as long as it says, whatever lies behind it.
func TestDecodeOfAPieceOfARow(t *testing.T) {
	var all []byte
	for i := range 100 {
		all = append(all, byte(37*i+11))
	}
	for from := range all {
		for to := from; to <= len(all); to++ {
			if to-from == 12 {
				decodesTo(t, all[from:to], decoded(all[from:to]))
				decodesTo(t, all[from:to:to], decoded(all[from:to]))
			} else {
				refuses(t, all[from:to])
			}
		}
	}
}

// P5.2: Writes

func TestWrites(t *testing.T) {
	for _, x := range []struct {
		at, n         int
		nText, atText string
	}{
		{0, 0, "0000000000000000", "00000000"},
		{99, 5000000, "00000000004c4b40", "00000063"},
		{0x01020304, 0x05060708090a0b0c, "05060708090a0b0c", "01020304"},
		{1700000000, -1, "ffffffffffffffff", "6553f100"},
		{maxTime, math.MinInt, "8000000000000000", "ffffffff"},
		{maxTime, math.MaxInt, "7fffffffffffffff", "ffffffff"},
		{maxTime + 1, 1, "0000000000000001", "ffffffff"},
		{1<<32 + 5, 1, "0000000000000001", "ffffffff"},
		{math.MaxInt, 1, "0000000000000001", "ffffffff"},
		{-1, 1, "0000000000000001", "00000000"},
		{-1<<32 + 5, 1, "0000000000000001", "00000000"},
		{math.MinInt, 1, "0000000000000001", "00000000"},
	} {
		p := api.Point{At: x.at, N: x.n}
		got := slot.Writes(p)
		if len(got) != 3 || len(got[0]) != 4 || len(got[1]) != 8 || len(got[2]) != 4 {
			t.Fatalf("Writes(%v): %x", p, got)
		}
		if !bytes.Equal(got[0], []byte{0, 0, 0, 0}) || !bytes.Equal(got[1], unhex(t, x.nText)) || !bytes.Equal(got[2], unhex(t, x.atText)) {
			t.Errorf("Writes(%v): %x", p, got)
		}
	}
}

func TestWritesOfManyPoints(t *testing.T) {
	for _, p := range points() {
		areRows(t, p, slot.Writes(p))
	}
	ats, ns := scattered(5000, 37), scattered(5000, 41)
	for i := range ats {
		p := api.Point{At: ats[i], N: ns[len(ns)-1-i]}
		areRows(t, p, slot.Writes(p))
	}
}

// earlier are slots over which a point is written.
func earlier() [][]byte {
	return [][]byte{
		make([]byte, 12), bytes.Repeat([]byte{255}, 12), bytes.Repeat([]byte{1}, 12), []byte("twelve bytes"),
		encoded(api.Point{At: 60, N: 5000000}), encoded(api.Point{At: 1699999980, N: -7}), encoded(api.Point{At: maxTime, N: math.MinInt}),
	}
}

// Behind the first row and behind the second one the slot is of time 0, and behind the third it is the point.
func TestSlotBehindEachWrite(t *testing.T) {
	for _, p := range points() {
		for _, b := range earlier() {
			was := bytes.Clone(b)
			want := [][]byte{
				slices.Concat([]byte{0, 0, 0, 0}, was[4:]),
				slices.Concat([]byte{0, 0, 0, 0}, nRow(p)),
				encoded(p),
			}
			for i, row := range slot.Writes(p) {
				copy(b[offsets()[i]:], row)
				if !bytes.Equal(b, want[i]) {
					t.Fatalf("row %d of Writes(%v) over %x leaves %x", i, p, was, b)
				}
			}
			if !bytes.Equal(b, slot.Encode(p)) {
				t.Fatalf("Writes(%v) leaves %x, which is not what Encode answers", p, b)
			}
		}
	}
}

// torn are all slots that are left if the writes over b break off behind some byte.
func torn(b []byte, rows [][]byte) [][]byte {
	b = bytes.Clone(b)
	var l [][]byte
	for i, row := range rows {
		for n := range row {
			left := bytes.Clone(b)
			copy(left[offsets()[i]:], row[:n])
			l = append(l, left)
		}
		copy(b[offsets()[i]:], row)
	}
	return append(l, b)
}

// However the writes break off, the slot has its old point, its new one, or none that the ring still has room for.
func TestIncompleteWritesAreNoPoint(t *testing.T) {
	r := rand.New(rand.NewPCG(5, 3))
	for range 20000 {
		a := api.Archive{Step: 1 + r.IntN(1<<r.IntN(17)), Count: 1 + r.IntN(1<<r.IntN(12))}
		span := a.Step * a.Count
		first := slot.Align(r.IntN(maxTime-span)>>r.IntN(24), a.Step)
		old := api.Point{At: first, N: int(r.Uint64())}
		now := api.Point{At: first + span*r.IntN((maxTime-first)/span+1), N: int(r.Uint64())}
		for _, b := range torn(encoded(old), slot.Writes(now)) {
			p, _ := slot.Decode(b)
			holds := p.At > 0 && slot.Align(p.At, a.Step) == p.At && slot.Place(a, p.At) == slot.Place(a, now.At)
			if holds && p != old && p != now && now.At-p.At < span {
				t.Fatalf("%v over %v in %v may leave %v", now, old, a, p)
			}
		}
	}
}

// P5.3

func TestThereAndBack(t *testing.T) {
	ats := slices.DeleteFunc(append(edges(), scattered(3000, 43)...), func(at int) bool { return at < 0 || at > maxTime })
	if len(ats) < 500 {
		t.Fatal("too few times within the range:", len(ats))
	}
	ns := append(edges(), scattered(200, 47)...)
	for _, at := range ats {
		for _, n := range ns {
			p := api.Point{At: at, N: n}
			decodesTo(t, slot.Encode(p), p)
		}
	}
}

// A point that is out of range comes back as the one at the nearest limit.
func TestThereAndBackOutsideTheRange(t *testing.T) {
	for _, p := range points() {
		decodesTo(t, slot.Encode(p), api.Point{At: int(limited(p.At)), N: p.N})
	}
}

// W6: neither what is handed in nor the memory behind it is another afterwards.
func TestArgumentsStay(t *testing.T) {
	var b []byte
	for i := range 60 {
		b = append(b, byte(31*i+7))
	}
	was := bytes.Clone(b)
	for from := range b {
		for to := from; to <= len(b); to++ {
			slot.Decode(b[from:to])
			slot.Decode(b[from:to:to])
		}
	}
	if !bytes.Equal(b, was) {
		t.Errorf("bytes were written to: %x", b)
	}
	row := []api.Point{{At: -5, N: -6}, {At: maxTime + 9, N: 7}, {At: 8, N: math.MinInt}}
	for _, p := range row {
		slot.Encode(p)
		slot.Writes(p)
	}
	if !slices.Equal(row, []api.Point{{At: -5, N: -6}, {At: maxTime + 9, N: 7}, {At: 8, N: math.MinInt}}) {
		t.Error("points were written to:", row)
	}
}

// W6, W7: no result shares memory with an argument or with another result.
func TestResultsAreNew(t *testing.T) {
	for _, p := range points() {
		first, second := slot.Encode(p), slot.Encode(p)
		spoil(first)
		if !bytes.Equal(second, encoded(p)) {
			t.Fatalf("two encodings of %v share memory", p)
		}
		b := encoded(p)
		got, _ := slot.Decode(b)
		spoil(b)
		if got != (api.Point{At: int(limited(p.At)), N: p.N}) {
			t.Fatalf("a point changed with its bytes: %v", got)
		}
		one, two := slot.Writes(p), slot.Writes(p)
		all := one[:cap(one)]
		for i := range all {
			spoil(all[i])
			all[i] = []byte("another")
		}
		areRows(t, p, two)
		encodesTo(t, p, encoded(p))
	}
}

// W6: of the three rows of one call, each has memory of its own, also behind its end.
func TestRowsShareNoMemory(t *testing.T) {
	for _, p := range points() {
		want := [][]byte{make([]byte, 4), nRow(p), atRow(p)}
		for i := range 3 {
			rows := slot.Writes(p)
			spoil(rows[i])
			for k, row := range rows {
				if k != i && !bytes.Equal(row, want[k]) {
					t.Fatalf("rows %d and %d of Writes(%v) share memory", i, k, p)
				}
			}
			rows = slot.Writes(p)
			for k := range rows {
				if k != i {
					spoil(rows[k])
				}
			}
			if !bytes.Equal(rows[i], want[i]) {
				t.Fatalf("row %d of Writes(%v) shares memory with another", i, p)
			}
		}
	}
}

// The memory behind the end of one row is not that behind the end of another.
func TestMemoryBehindRowsIsNotShared(t *testing.T) {
	rows := slot.Writes(api.Point{At: 5, N: 6})
	for i, row := range rows {
		all := row[:cap(row)]
		for k := range all {
			all[k] = byte(i + 1)
		}
	}
	for i, row := range rows {
		all := row[:cap(row)]
		if !bytes.Equal(all, bytes.Repeat([]byte{byte(i + 1)}, len(all))) {
			t.Errorf("row %d: %x", i, all)
		}
	}
}

// W2: the same arguments have the same results, whatever was asked between.
func TestSameAnswersAgain(t *testing.T) {
	l := points()
	for range 3 {
		for _, p := range l {
			b := encoded(p)
			encodesTo(t, p, b)
			refuses(t, b[1:])
			areRows(t, p, slot.Writes(p))
			decodesTo(t, b, decoded(b))
			alignsTo(t, p.At, p.N, aligned(p.At, p.N))
			liesAt(t, p.N, 5, p.At, placed(api.Archive{Step: p.N, Count: 5}, p.At))
		}
		slices.Reverse(l)
	}
}
