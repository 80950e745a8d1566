package agg_test

import (
	"math"
	"slices"
	"strings"
	"testing"

	"graticule/agg"
	"graticule/api"
)

// P6.1: Known

func TestKnown(t *testing.T) {
	for _, x := range []struct{ l, want []api.Val }{
		{nil, nil}, {row(), nil}, {row(none), nil}, {row(none, none, none), nil},
		{nums(5), nums(5)}, {nums(0), nums(0)}, {nums(3, 1, 2), nums(3, 1, 2)}, {nums(4, 4, 4), nums(4, 4, 4)},
		{row(none, none, num(7), none, none), nums(7)},
		{row(none, num(1), num(2)), nums(1, 2)}, {row(num(1), none, num(2)), nums(1, 2)}, {row(num(1), num(2), none), nums(1, 2)},
		{row(none, num(-1), none, num(0), none, num(1), none), nums(-1, 0, 1)},
		{nums(maxN, -maxN, maxN-1, 1-maxN), nums(maxN, -maxN, maxN-1, 1-maxN)},
		{nums(maxN+1, 3, -maxN-1, 2, math.MaxInt, 1, math.MinInt), nums(3, 2, 1)},
		{row(api.Val{N: 3}, num(3), api.Val{N: -3}), nums(3)},
	} {
		knownIs(t, x.l, x.want)
	}
	if l := agg.Known(); len(l) != 0 {
		t.Error("Known of nothing:", l)
	}
	if l := agg.Known(num(2), none, num(1)); !slices.Equal(l, nums(2, 1)) {
		t.Error("Known of arguments:", l)
	}
}

func TestKnownLeavesOutWhatIsNoValue(t *testing.T) {
	for _, v := range notValues() {
		knownIs(t, row(v), nil)
		knownIs(t, row(v, v), nil)
		knownIs(t, row(v, num(1), v, num(2), v), nums(1, 2))
	}
}

func TestKnownOfAllShortRows(t *testing.T) {
	for _, l := range rowsOf(turning(), 4) {
		knownIs(t, l, knownOf(l))
	}
}

// P6.1: Of

func TestOf(t *testing.T) {
	for _, x := range []struct {
		l                          []api.Val
		avg, sum, last, most, mini int
	}{
		{nums(5), 5, 5, 5, 5, 5}, {nums(0), 0, 0, 0, 0, 0}, {nums(-5), -5, -5, -5, -5, -5},
		{nums(1, 2, 3), 2, 6, 3, 3, 1}, {nums(3, 2, 1), 2, 6, 1, 3, 1}, {nums(2, 1, 3, 2), 2, 8, 2, 3, 1}, {nums(2, 3, 1, 2), 2, 8, 2, 3, 1},
		{nums(-1, -2, -3), -2, -6, -3, -1, -3}, {nums(-3, -1, -2), -2, -6, -2, -1, -3}, {nums(-4, 4), 0, 0, 4, 4, -4}, {nums(4, -4), 0, 0, -4, 4, -4},
		{nums(7, 7, 7), 7, 21, 7, 7, 7}, {nums(0, 0), 0, 0, 0, 0, 0}, {nums(0, -9, 0), -3, -9, 0, 0, -9}, {nums(0, 9, 0), 3, 9, 0, 9, 0},
		{nums(1500000, 2500000), 2000000, 4000000, 2500000, 2500000, 1500000},
		// none is not counted
		{row(num(1000000), none, num(3000000)), 2000000, 4000000, 3000000, 3000000, 1000000},
		{row(none, none, num(8), none, none, none), 8, 8, 8, 8, 8}, {row(none, num(-8), none), -8, -8, -8, -8, -8},
		{row(none, num(4), num(8)), 6, 12, 8, 8, 4}, {row(num(4), none, none, num(8)), 6, 12, 8, 8, 4}, {row(num(4), num(8), none), 6, 12, 8, 8, 4},
		{row(num(8), num(4), none), 6, 12, 4, 8, 4}, {row(none, num(-4), none, num(-8), none), -6, -12, -8, -4, -8},
		// both ends of the range
		{nums(maxN), maxN, maxN, maxN, maxN, maxN}, {nums(-maxN), -maxN, -maxN, -maxN, -maxN, -maxN},
		{nums(maxN, -maxN), 0, 0, -maxN, maxN, -maxN}, {nums(-maxN, maxN), 0, 0, maxN, maxN, -maxN},
		{nums(maxN, -maxN, maxN), 1537228672809129301, maxN, maxN, maxN, -maxN}, {nums(-maxN, maxN, -maxN), -1537228672809129301, -maxN, -maxN, maxN, -maxN},
		{nums(maxN-1, 1), maxN / 2, maxN, 1, maxN - 1, 1}, {nums(1-maxN, -1), -maxN / 2, -maxN, -1, -1, 1 - maxN},
	} {
		ofIs(t, avg, x.l, num(x.avg))
		ofIs(t, sum, x.l, num(x.sum))
		ofIs(t, last, x.l, num(x.last))
		ofIs(t, most, x.l, num(x.most))
		ofIs(t, mini, x.l, num(x.mini))
	}
	if v := agg.Of(sum, num(1), none, num(2)); v != num(3) {
		t.Error("Of arguments:", v)
	}
}

// The kinds of the given package are the five.
func TestOfGivenKinds(t *testing.T) {
	l := nums(9, 1, 5)
	ofIs(t, api.AggAvg, l, num(5))
	ofIs(t, api.AggSum, l, num(15))
	ofIs(t, api.AggLast, l, num(5))
	ofIs(t, api.AggMax, l, num(9))
	ofIs(t, api.AggMin, l, num(1))
}

func TestOfNothingKnown(t *testing.T) {
	for _, kind := range append(kinds(), noKinds()...) {
		if v := agg.Of(kind); v != none {
			t.Error("Of without arguments:", kind, v)
		}
		for _, l := range [][]api.Val{nil, row(), row(none), row(none, none, none), notValues()} {
			ofIs(t, kind, l, none)
		}
		for _, v := range notValues() {
			ofIs(t, kind, row(v), none)
			ofIs(t, kind, row(none, v), none)
		}
	}
}

func TestOfNoKind(t *testing.T) {
	for _, kind := range noKinds() {
		for _, l := range [][]api.Val{nums(1), nums(1, 2, 3), nums(0), nums(maxN), row(none, num(1)), row(num(1), none), nums(4, 4)} {
			ofIs(t, kind, l, none)
		}
	}
}

// What is no value is left out as none is, wherever it stands, and is not the number that it tells.
func TestOfLeavesOutWhatIsNoValue(t *testing.T) {
	for _, v := range notValues() {
		for _, l := range [][]api.Val{row(v, num(6), num(2)), row(num(6), v, num(2)), row(num(6), num(2), v), row(v, v, num(6), v, num(2), v, v)} {
			ofIs(t, avg, l, num(4))
			ofIs(t, sum, l, num(8))
			ofIs(t, last, l, num(2))
			ofIs(t, most, l, num(6))
			ofIs(t, mini, l, num(2))
		}
	}
}

// A sum that leaves the range is none, also if it turns back; a mean of it is none too, though it would be in range.
func TestSumsOutOfRange(t *testing.T) {
	for _, l := range [][]api.Val{
		nums(maxN, 1), nums(-maxN, -1), nums(1, maxN), nums(maxN, maxN), nums(-maxN, -maxN), nums(maxN/2+1, maxN/2),
		nums(maxN, 1, -1), nums(-maxN, -1, 1), nums(maxN, 1, -2), nums(maxN, maxN, -maxN), nums(-maxN, -maxN, maxN), nums(maxN, maxN, -maxN, -maxN),
		nums(maxN, maxN, maxN, maxN), nums(-maxN, -maxN, -maxN, -maxN), nums(0, maxN, 0, 1, 0, -maxN, 0),
		row(none, num(maxN), none, num(1), none, num(-1), none), row(num(maxN), api.Val{N: -5}, num(5)), row(num(maxN), num(-maxN-1), num(5)),
	} {
		ofIs(t, sum, l, none)
		ofIs(t, avg, l, none)
		for _, kind := range []int{last, most, mini} {
			ofIs(t, kind, l, ofAll(kind, l))
			if agg.Of(kind, l...) == none {
				t.Error("a sum is asked that nobody needs:", kind, l)
			}
		}
	}
}

// Sums go from left to right, so that another order of the same values may stay in range.
func TestSumsThatStayInRange(t *testing.T) {
	for _, l := range [][]api.Val{nums(maxN, -1, 1), nums(-maxN, 1, -1), nums(-1, maxN, 1), nums(maxN, -maxN, maxN, -maxN, maxN), row(num(maxN), none, num(-2), none, num(1))} {
		ofIs(t, sum, l, ofAll(sum, l))
		ofIs(t, avg, l, ofAll(avg, l))
		if agg.Of(sum, l...) == none || agg.Of(avg, l...) == none {
			t.Error("a sum in range is none:", l)
		}
	}
}

func TestMeansAreRounded(t *testing.T) {
	for _, x := range []struct {
		l    []api.Val
		want int
	}{
		// just at a half, with either sign
		{nums(0, 1), 1}, {nums(0, -1), -1}, {nums(1, 2), 2}, {nums(-1, -2), -2}, {nums(2, 3), 3}, {nums(-2, -3), -3}, {nums(-1, 0), -1}, {nums(5, -2), 2}, {nums(-5, 2), -2},
		{nums(0, 0, 0, 2), 1}, {nums(0, 0, 0, -2), -1}, {nums(1, 1, 1, 3), 2}, {nums(-1, -1, -1, -3), -2}, {row(num(0), none, num(1)), 1}, {row(none, num(-1), num(0)), -1},
		// just below and just above one
		{nums(0, 0, 1), 0}, {nums(0, 0, -1), 0}, {nums(0, 1, 1), 1}, {nums(0, -1, -1), -1}, {nums(0, 0, 0, 1), 0}, {nums(0, 0, 0, -1), 0}, {nums(0, 1, 1, 1), 1}, {nums(0, -1, -1, -1), -1},
		{nums(1000000, 0, 0), 333333}, {nums(2000000, 0, 0), 666667}, {nums(-1000000, 0, 0), -333333}, {nums(-2000000, 0, 0), -666667},
		// at the ends
		{nums(maxN, 0), maxN / 2}, {nums(maxN-1, 0), maxN / 2}, {nums(1-maxN, 0), -maxN / 2}, {nums(maxN-2, 1), maxN / 2}, {nums(0, maxN, -1, 0), maxN / 4}, {nums(0, 0, maxN), 1537228672809129301},
	} {
		ofIs(t, avg, x.l, num(x.want))
	}
}

func TestOfAllShortRows(t *testing.T) {
	for _, l := range rowsOf(turning(), 4) {
		for kind := -1; kind <= 7; kind++ {
			ofIs(t, kind, l, ofAll(kind, l))
		}
	}
}

func TestOfLongRows(t *testing.T) {
	for seed, size := range []int{5, 9, 17, 64, 100, 333, 1000} {
		for _, smaller := range []int{0, 1, 8, 40} {
			l := nums(scattered(size, uint64(seed))...)
			for i := range l {
				l[i].N >>= smaller
				l[i].Ok = l[i].N%3 != 0
			}
			for _, kind := range kinds() {
				ofIs(t, kind, l, ofAll(kind, l))
			}
		}
	}
}

// P6.2: Enough

func TestEnough(t *testing.T) {
	for _, x := range []struct {
		xff, known, all int
		want            bool
	}{
		// nobody is known, or nobody is there
		{0, 0, 0, false}, {0, 0, 1, false}, {0, 0, 100, false}, {500000, 0, 5, false}, {-1, 0, 5, false}, {0, -1, 5, false}, {0, -5, -5, false}, {-7, -5, -3, false},
		{0, 1, 0, false}, {0, 1, -1, false}, {-1, 1, 0, false},
		// more than all
		{0, 2, 1, false}, {0, 6, 5, false}, {500000, 6, 5, false}, {whole, 6, 5, false}, {-9, 6, 5, false}, {0, limit, limit - 1, false},
		// one and all
		{0, 1, 1, true}, {0, 1, 5, true}, {0, 5, 5, true}, {whole, 1, 1, true}, {whole, 5, 5, true}, {whole, 4, 5, false}, {whole, limit, limit, true}, {whole, limit - 1, limit, false}, {whole, limit - 1, limit - 1, true},
		// just at the share, just below and just above it
		{500000, 1, 2, true}, {500001, 1, 2, false}, {499999, 1, 2, true}, {500000, 2, 4, true}, {500000, 1, 4, false}, {500000, 3, 4, true}, {500000, 2, 3, true}, {500000, 2, 5, false}, {500000, 3, 5, true},
		{333333, 1, 3, true}, {333334, 1, 3, false}, {666666, 2, 3, true}, {666667, 2, 3, false}, {600000, 3, 5, true}, {600001, 3, 5, false}, {599999, 3, 5, true},
		{1, 1, whole, true}, {1, 1, whole + 1, false}, {1, 1, whole - 1, true}, {2, 1, whole, false}, {2, 2, whole, true}, {999999, 999999, whole, true}, {999999, 999998, whole, false}, {999999, 4, 5, false}, {999999, 5, 5, true},
		{0, 1, limit, true}, {1, 16, limit, false}, {1, 17, limit, true},
		// an xff above the whole, and below 0
		{whole + 1, 1, 1, false}, {whole + 1, limit, limit, false}, {limit - 1, 5, 5, false}, {limit, 5, 5, false}, {limit + 1, 5, 5, false}, {math.MaxInt, 5, 5, false}, {math.MaxInt, 2, 2, false}, {math.MaxInt, limit, limit, false},
		{-1, 1, 5, true}, {-whole, 1, 5, true}, {-1, 5, 5, true}, {math.MinInt, 1, 5, true}, {math.MinInt + 1, 1, 5, true}, {-maxN - 1, 1, 3, true},
		// beyond the limit, each of the two and both
		{whole, limit, limit + 1, true}, {whole, limit, limit + 2, true}, {whole, limit, 2 * limit, true}, {whole, limit, math.MaxInt, true}, {whole, limit - 1, limit + 1, false}, {whole, limit - 1, math.MaxInt, false},
		{0, limit + 1, limit, true}, {whole, limit + 1, limit, true}, {whole, math.MaxInt, limit, true}, {0, limit + 1, limit - 1, false}, {0, math.MaxInt, limit - 1, false}, {0, math.MaxInt, 5, false}, {0, math.MaxInt, 0, false},
		{whole, limit + 1, limit + 1, true}, {whole, limit + 1, limit + 2, true}, {whole, math.MaxInt, math.MaxInt, true}, {whole + 1, math.MaxInt, math.MaxInt, false}, {whole, limit + 2, limit + 1, true},
		{500000, limit / 2, limit, true}, {500000, limit / 2, math.MaxInt, true}, {500000, limit/2 - 1, limit, false}, {500000, limit/2 - 1, math.MaxInt, false}, {0, 1, math.MaxInt, true}, {1, 1, math.MaxInt, false}, {1, 17, math.MaxInt, true},
		// the least ones
		{0, math.MinInt, 5, false}, {0, 1, math.MinInt, false}, {math.MinInt, math.MinInt, math.MinInt, false}, {math.MaxInt, math.MinInt, math.MinInt, false}, {0, math.MinInt, math.MaxInt, false}, {0, math.MaxInt, math.MinInt, false},
	} {
		enoughIs(t, x.xff, x.known, x.all, x.want)
	}
}

func TestEnoughOfSmallCounts(t *testing.T) {
	for all := -2; all <= 12; all++ {
		for known := -2; known <= 14; known++ {
			for _, xff := range edges() {
				enoughIs(t, xff, known, all, areEnough(xff, known, all))
			}
			// Just at the share of so many, and around it.
			if all > 0 {
				for near := -2; near <= 2; near++ {
					xff := known*whole/all + near
					enoughIs(t, xff, known, all, areEnough(xff, known, all))
				}
			}
		}
	}
}

func TestEnoughInExactNumbers(t *testing.T) {
	l := edges()
	for _, xff := range l {
		for _, known := range l {
			for _, all := range l {
				enoughIs(t, xff, known, all, areEnough(xff, known, all))
			}
		}
	}
	xs, ks, as := scattered(20000, 1), scattered(20000, 2), scattered(20000, 3)
	for i := range xs {
		xff, known, all := xs[i], ks[i*31%len(ks)], as[i*17%len(as)]
		enoughIs(t, xff, known, all, areEnough(xff, known, all))
		xff, known, all = xff&(1<<20-1), known&(1<<24-1), all&(1<<24-1)
		enoughIs(t, xff, known, all, areEnough(xff, known, all))
	}
}

// P6.2: Put

func TestPut(t *testing.T) {
	three := row(num(1000000), none, num(3000000))
	if v := agg.Put(api.AggAvg, 500000, num(1000000), none, num(3000000)); v != num(2000000) {
		t.Error("the example:", v)
	}
	for _, x := range []struct {
		kind, xff int
		l         []api.Val
		want      api.Val
	}{
		{avg, 500000, three, num(2000000)}, {sum, 500000, three, num(4000000)}, {last, 500000, three, num(3000000)}, {most, 500000, three, num(3000000)}, {mini, 500000, three, num(1000000)},
		// just at the share, just below and just above it
		{avg, 666666, three, num(2000000)}, {avg, 666667, three, none}, {last, 666667, three, none}, {sum, whole, three, none},
		{sum, 500000, row(num(7), none), num(7)}, {sum, 500001, row(num(7), none), none}, {sum, 499999, row(none, num(7)), num(7)}, {sum, 500001, row(none, num(7)), none},
		{sum, 250000, row(none, none, num(7), none), num(7)}, {sum, 250001, row(none, none, num(7), none), none}, {sum, 250001, row(none, num(5), num(7), none), num(12)},
		// nothing, all and beyond
		{sum, 0, row(none, none, none, none, num(3)), num(3)}, {sum, 0, row(none, none), none}, {sum, 0, nil, none}, {sum, -1, nil, none}, {sum, -1, row(none), none}, {sum, -5, row(none, num(3)), num(3)}, {sum, math.MinInt, row(none, num(3)), num(3)},
		{sum, whole, nums(1, 2), num(3)}, {sum, whole, row(num(1), num(2), none), none}, {sum, whole + 1, nums(1, 2), none}, {sum, math.MaxInt, nums(1, 2), none}, {last, math.MaxInt, nums(1, 2), none},
		// what is no value is one of all, and not one of the known
		{sum, 500000, row(num(7), api.Val{N: 9}), num(7)}, {sum, 500001, row(num(7), api.Val{N: 9}), none}, {sum, 500001, row(num(7), num(maxN+1)), none}, {sum, 0, row(num(maxN+1), api.Val{N: 1}), none},
		// enough are known, but they are too much
		{sum, 0, nums(maxN, 1), none}, {avg, 0, nums(maxN, 1, -1), none}, {most, 0, nums(maxN, 1), num(maxN)}, {sum, whole, nums(maxN, -1, 1), num(maxN)}, {avg, whole, nums(0, 1), num(1)}, {avg, whole, nums(0, -1), num(-1)},
	} {
		putIs(t, x.kind, x.xff, x.l, x.want)
	}
	for _, kind := range append(kinds(), noKinds()...) {
		if v := agg.Put(kind, 0); v != none {
			t.Error("Put without arguments:", kind, v)
		}
	}
}

func TestPutOfNoKind(t *testing.T) {
	for _, kind := range noKinds() {
		for _, xff := range []int{math.MinInt, -1, 0, 500000, whole, whole + 1, math.MaxInt} {
			for _, l := range [][]api.Val{nil, row(none), nums(1), nums(1, 2, 3), row(num(1), none)} {
				putIs(t, kind, xff, l, none)
			}
		}
	}
}

func TestPutOfAllShortRows(t *testing.T) {
	for _, l := range rowsOf(turning(), 4) {
		for kind := 0; kind <= 6; kind++ {
			for _, xff := range []int{-1, 0, 1, 250000, 250001, 333333, 333334, 500000, 500001, 666666, 666667, 750000, 750001, whole, whole + 1, math.MaxInt} {
				putIs(t, kind, xff, l, putOf(kind, xff, l))
			}
		}
	}
}

// Beyond the limit, so many as the limit count as all.
func TestPutOfMoreThanTheLimit(t *testing.T) {
	l := slices.Repeat(nums(1), limit+1)
	l[5] = none
	if v := agg.Put(sum, whole, l...); v != num(limit) {
		t.Error("with one none:", v)
	}
	l[limit] = none
	if v := agg.Put(sum, whole, l...); v != none {
		t.Error("with two none:", v)
	}
	if v := agg.Put(sum, whole-1, l...); v != num(limit-1) {
		t.Error("with two none and a lower share:", v)
	}
	if v := agg.Put(avg, whole, l[:limit]...); v != none {
		t.Error("at the limit:", v)
	}
}

// P6.3

// namesOfKinds are the names, a place each kind.
func namesOfKinds() []string { return []string{"", "average", "sum", "last", "max", "min"} }

func TestName(t *testing.T) {
	for kind, want := range namesOfKinds() {
		if got := agg.Name(kind); got != want {
			t.Errorf("Name(%d): %q", kind, got)
		}
	}
	for _, kind := range append(noKinds(), scattered(1000, 5)...) {
		if got := agg.Name(kind); got != "" && (kind < avg || kind > mini) {
			t.Errorf("Name(%d): %q", kind, got)
		}
	}
	for kind, want := range map[int]string{api.AggAvg: "average", api.AggSum: "sum", api.AggLast: "last", api.AggMax: "max", api.AggMin: "min"} {
		if got := agg.Name(kind); got != want {
			t.Errorf("Name(%d): %q", kind, got)
		}
	}
}

func TestKind(t *testing.T) {
	for kind, name := range namesOfKinds() {
		kindIs(t, name, kind)
	}
	kindIs(t, "avg", avg)
	kindIs(t, "", 0)
	for _, name := range []string{
		"Average", "AVERAGE", "averagE", "Avg", "AVG", "Sum", "SUM", "sUm", "Last", "LAST", "Max", "MAX", "Min", "MIN", "mIn", "\u017fum", "m\u0131n", "la\u017ft",
		" ", " average", "average ", " avg", "avg ", "sum ", " sum", "last\t", "\nlast", "max\n", "min\x00", "\x00min", "s um", "m ax", "a v g",
		"averages", "averagely", "avgs", "avgg", "sums", "summary", "lasts", "lastest", "maximum", "maxx", "minimum", "minn", "maxmin", "sumavg", "avg,sum", "sum,",
		"a", "av", "aver", "averag", "s", "su", "l", "la", "las", "m", "ma", "mi", "um", "ast", "ax", "in", "verage", "vg",
		"count", "range", "median", "first", "multiply", "diff", "stddev", "mean", "total", "none", "None", "current", "0", "1", "2", "3", "4", "5", "\xff", "su\xff", "\xffsum", "sum\xc2",
		strings.Repeat("sum", 2), strings.Repeat("avg", 1<<18), strings.Repeat("\x00", 1<<20),
	} {
		kindIs(t, name, 0)
	}
}

// Of all words of three letters, four are names.
func TestKindOfThreeLetters(t *testing.T) {
	want := func(word string) int {
		switch word {
		case "avg":
			return avg
		case "sum":
			return sum
		case "max":
			return most
		case "min":
			return mini
		}
		return 0
	}
	for a := 'a'; a <= 'z'; a++ {
		for b := 'a'; b <= 'z'; b++ {
			for c := 'a'; c <= 'z'; c++ {
				word := string([]rune{a, b, c})
				kindIs(t, word, want(word))
			}
		}
	}
}

// A name with any byte more, or with one less, or with any other in a place, is no name.
func TestKindOfNamesThatNearlyAre(t *testing.T) {
	for _, name := range []string{"average", "avg", "sum", "last", "max", "min"} {
		for at := range len(name) + 1 {
			for x := range 256 {
				kindIs(t, name[:at]+string([]byte{byte(x)})+name[at:], 0)
				if at < len(name) && name[at] != byte(x) {
					kindIs(t, name[:at]+string([]byte{byte(x)})+name[at+1:], 0)
				}
			}
			if at < len(name) {
				kindIs(t, name[:at], 0)
				kindIs(t, name[:at]+name[at+1:], 0)
			}
		}
	}
}

func TestThereAndBack(t *testing.T) {
	for _, kind := range kinds() {
		if got := agg.Kind(agg.Name(kind)); got != kind {
			t.Errorf("kind %d came back as %d", kind, got)
		}
	}
	for _, kind := range noKinds() {
		if got := agg.Kind(agg.Name(kind)); got != 0 {
			t.Errorf("kind %d came back as %d", kind, got)
		}
	}
}

// P6.4

// Each result that is a value is none without a number, or a number in the range.
func TestResultsAreValues(t *testing.T) {
	isValue := func(v api.Val) bool { return v == none || isKnown(v) }
	vals := append(notValues(), turning()...)
	for _, l := range rowsOf(vals, 3) {
		for kind := 0; kind <= 6; kind++ {
			if v := agg.Of(kind, l...); !isValue(v) {
				t.Fatalf("Of(%d, %v): %v", kind, l, v)
			}
			if v := agg.Put(kind, 300000, l...); !isValue(v) {
				t.Fatalf("Put(%d, 300000, %v): %v", kind, l, v)
			}
		}
		for _, v := range agg.Known(l...) {
			if !isKnown(v) {
				t.Fatalf("Known(%v) has %v", l, v)
			}
		}
	}
}

// mixed is a row of all sorts, which no aggregation and no sorting leaves as it is if it works in place.
func mixed() []api.Val {
	return append(row(none, num(9), num(-4), none, num(maxN+1), num(3), api.Val{N: 6}, num(9), num(0), none, num(-7), num(2)), notValues()...)
}

// W6: neither the arguments nor the memory behind them is another afterwards.
func TestArgumentsStay(t *testing.T) {
	all := mixed()
	for from := range all {
		for to := from; to <= len(all); to++ {
			for kind := -1; kind <= 6; kind++ {
				agg.Of(kind, all[from:to]...)
				agg.Put(kind, 100000, all[from:to]...)
			}
			spoil(agg.Known(all[from:to]...))
			spoil(agg.Known(all[from:to:to]...))
			if !slices.Equal(all, mixed()) {
				t.Fatalf("the arguments from %d to %d were written to: %v", from, to, all)
			}
		}
	}
}

// spoil writes over all of a result, the memory behind it included.
func spoil(l []api.Val) {
	l = l[:cap(l)]
	for i := range l {
		l[i] = num(-123456789)
	}
}

// W6, W7: no result shares memory with an argument or with another result, also where all arguments are known.
func TestResultsAreNew(t *testing.T) {
	for _, whole := range [][]api.Val{mixed(), nums(1, 2, 3, 4, 5), nums(8), row(none, num(8)), row(num(8), none)} {
		for to := range len(whole) + 1 {
			want := knownOf(whole[:to])
			args := slices.Clone(whole)
			first, second := agg.Known(args[:to]...), agg.Known(args[:to]...)
			third := agg.Known(first...)
			spoil(first)
			if !slices.Equal(second, want) || !slices.Equal(third, want) {
				t.Fatalf("two results of Known share memory: %v, %v, want %v", second, third, want)
			}
			spoil(args)
			if !slices.Equal(second, want) {
				t.Fatalf("a result changed with its arguments: %v, want %v", second, want)
			}
		}
	}
}

// W2: the same arguments have the same results, whatever was asked between.
func TestSameAnswersAgain(t *testing.T) {
	rows := append(rowsOf(turning(), 2), mixed(), nums(maxN, 1, -1))
	for range 3 {
		for _, l := range rows {
			knownIs(t, l, knownOf(l))
			for kind := 6; kind >= 0; kind-- {
				ofIs(t, kind, l, ofAll(kind, l))
				putIs(t, kind, 400000, l, putOf(kind, 400000, l))
			}
			enoughIs(t, 400000, len(l), 3, areEnough(400000, len(l), 3))
		}
		for kind, name := range namesOfKinds() {
			kindIs(t, name, kind)
		}
		slices.Reverse(rows)
	}
}
