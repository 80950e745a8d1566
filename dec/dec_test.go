package dec_test

import (
	"math"
	"math/big"
	"regexp"
	"strconv"
	"strings"
	"testing"

	"graticule/api"
	"graticule/dec"
)

var none api.Val

// num is a number that is not made by the packages that are tested.
func num(n int) api.Val { return api.Val{Ok: true, N: n} }

// notValues are what chapter 1 says are no values.
func notValues() []api.Val {
	return []api.Val{
		{N: 1}, {N: -1}, {N: api.MaxN}, {N: math.MaxInt}, {N: math.MinInt},
		num(api.MaxN + 1), num(-api.MaxN - 1), num(math.MaxInt), num(math.MinInt),
	}
}

// edges are ints at which something turns: signs, lengths, words, the range.
func edges() []int {
	l := []int{0, math.MinInt, math.MaxInt, -math.MaxInt}
	for power := 1; ; power *= 10 {
		for d := -2; d <= 2; d++ {
			l = append(l, power+d, -power-d, power/2+d, -power/2-d)
		}
		if power > math.MaxInt/10 {
			break
		}
	}
	for bit := range 63 {
		for d := -1; d <= 1; d++ {
			l = append(l, 1<<bit+d, -1<<bit-d)
		}
	}
	return l
}

// scattered are n ints of all lengths and both signs, the same each time.
func scattered(n int, seed uint64) []int {
	l := make([]int, n)
	for i := range l {
		seed = seed*6364136223846793005 + 1442695040888963407
		x := seed ^ seed>>29
		l[i] = int(x) >> (i * 7 % 64)
	}
	return l
}

var (
	valueForm = regexp.MustCompile(`\A[-+]?[0-9]+(\.[0-9]+)?\z`)
	wholeForm = regexp.MustCompile(`\A-?[0-9]+\z`)
)

func exactInRange(x *big.Int) bool { return x.CmpAbs(big.NewInt(api.MaxN)) <= 0 }

// exactParse is what P2.1 asks of Parse, in exact fractions.
func exactParse(s string) (api.Val, bool) {
	if !valueForm.MatchString(s) {
		return none, false
	}
	x, ok := new(big.Rat).SetString(s)
	if !ok {
		panic(s)
	}
	x.Mul(x, big.NewRat(api.Scale, 1))
	// floor((2a + b) / 2b) is a / b with halves up, for a not below 0.
	n := new(big.Int).Abs(x.Num())
	n.Lsh(n, 1).Add(n, x.Denom())
	n.Quo(n, new(big.Int).Lsh(x.Denom(), 1))
	if x.Sign() < 0 {
		n.Neg(n)
	}
	if !exactInRange(n) {
		return none, false
	}
	return num(int(n.Int64())), true
}

// exactWhole is what P2.2 asks of Whole.
func exactWhole(s string) (int, bool) {
	if !wholeForm.MatchString(s) {
		return 0, false
	}
	n, ok := new(big.Int).SetString(s, 10)
	if !ok {
		panic(s)
	}
	if !exactInRange(n) {
		return 0, false
	}
	return int(n.Int64()), true
}

// exactPrint is what P2.1 asks of Print for a number, by the digits of a fraction.
func exactPrint(n int) string {
	s := big.NewRat(int64(n), api.Scale).FloatString(6)
	return strings.TrimSuffix(strings.TrimRight(s, "0"), ".")
}

// short is a text that may be too long to be shown.
func short(s string) string {
	if len(s) <= 80 {
		return strconv.Quote(s)
	}
	return strconv.Quote(s[:40]) + " .. " + strconv.Quote(s[len(s)-40:])
}

func parses(t *testing.T, s string, want api.Val, wantOk bool) {
	t.Helper()
	if v, ok := dec.Parse(s); v != want || ok != wantOk {
		t.Errorf("Parse(%s): got %v %t, want %v %t", short(s), v, ok, want, wantOk)
	}
}

func wholes(t *testing.T, s string, want int, wantOk bool) {
	t.Helper()
	if n, ok := dec.Whole(s); n != want || ok != wantOk {
		t.Errorf("Whole(%s): got %d %t, want %d %t", short(s), n, ok, want, wantOk)
	}
}

func prints(t *testing.T, v api.Val, want string) {
	t.Helper()
	if s := dec.Print(v); s != want {
		t.Errorf("Print(%v): got %q, want %q", v, s, want)
	}
}

func digits(t *testing.T, n int, want string) {
	t.Helper()
	if s := dec.Digits(n); s != want {
		t.Errorf("Digits(%d): got %q, want %q", n, s, want)
	}
}

// notNumbers are neither decimal numbers nor whole ones.
func notNumbers() []string {
	l := []string{
		"", "-", "+", ".", "-.", "+.", "..", "--", "++",
		// a dot without digits ahead of it or behind it
		".5", "+.5", "-.5", "5.", "+5.", "-5.", "0.", ".0", "5.-1", "5.+1", "-5.-1", "5.-", "5.+",
		// two signs, a sign elsewhere, two dots
		"--1", "++1", "+-1", "-+1", "- 1", "+ 1", "1-", "1+", "1-1", "1+1", "1.5-", "-1-", "--", "-1.-5",
		"1..5", "1.2.3", "..5", "1.5.", ".1.5", "1..", "1.2.", "1.23456789.", "0.000000.0",
		// blanks
		" ", " 1", "1 ", "1 2", "\t1", "1\t", "1\n", "\n1", "1\r", "1\x00", "\x001", "1. 5", "1 .5", "-1 ", "1.5 ", "1.5\n", "1.0000000 ", "1\u00a0",
		// other letters and signs
		"a", "x1", "1x", "0x1", "1e3", "1E3", "1.5e1", "1_000", "1,5", "1,000", "1/2", "/", ":", "1:", "1/", "0.:", "0./", "1.00000000x", "None", "none", "nan", "NaN", "inf", "Inf", "+Inf", "-inf", "true",
		// letters of more than one byte, digits and signs of other scripts among them
		"é", "1é", "é1", "\u2212" + "1", "\uff11", "\u0661", "1\u0662", "1.\u0663", "\u00b2", "1\u00bd", "1\u3002" + "5", "\u200b1", "\ufeff1", "\U0001d7cf",
		// bytes that are no letters
		"\xff", "1\xff", "\xff1", "1.\xff", "1.5\xff", "-\xff", "\x80", "1\x80\x31", "\xc0\xb1", "\xed\xa0\x80", "1.0000000\xfe",
		// a code point and a byte whose lowest bits are those of a digit
		"\u0130", "\u0131", "\u0230", "\xb0", "\xb1", "1\xb0", "0.\xb5", "\u0535", "0.000000\u0535",
	}
	nines := strings.Repeat("9", 1000)
	return append(l, nines+"x", "x"+nines, nines+" ", nines+".", "."+nines, nines+".."+nines, "0."+nines+"x", "0."+nines+".", nines+"\xff", "--"+nines)
}

// P2.1: Parse

func TestParse(t *testing.T) {
	for _, x := range []struct {
		s string
		n int
	}{
		{"0", 0}, {"1", 1000000}, {"7", 7000000}, {"9", 9000000}, {"10", 10000000}, {"42", 42000000}, {"1234567890", 1234567890000000},
		{"1.5", 1500000}, {"0.25", 250000}, {"3.141592", 3141592}, {"0.000001", 1}, {"0.1", 100000}, {"0.01", 10000}, {"0.999999", 999999}, {"123.456789", 123456789},
		// either sign and none
		{"-1", -1000000}, {"+1", 1000000}, {"-1.5", -1500000}, {"+1.5", 1500000}, {"-0.000001", -1}, {"+0.000001", 1}, {"-0.5", -500000}, {"+0.5", 500000},
		{"-0", 0}, {"+0", 0}, {"-0.0", 0}, {"+0.0", 0}, {"-0.0000004", 0}, {"-000.000", 0},
		// noughts ahead and at the end
		{"007", 7000000}, {"-007", -7000000}, {"+007", 7000000}, {"00", 0}, {"000.5", 500000}, {"1.50", 1500000}, {"1.500000", 1500000}, {"1.0", 1000000}, {"1.000000", 1000000},
		{"1.0000000", 1000000}, {"1.5000000000", 1500000}, {"100", 100000000}, {"0.100", 100000}, {"0010.0100", 10010000}, {"-00.10", -100000},
		// more digits than a millionth has, with the halves of both signs
		{"0.0000001", 0}, {"0.0000004", 0}, {"0.0000005", 1}, {"0.0000006", 1}, {"0.0000009", 1}, {"-0.0000001", 0}, {"-0.0000005", -1}, {"-0.0000009", -1}, {"+0.0000005", 1},
		{"0.00000049", 0}, {"0.00000049999999999999999999999", 0}, {"-0.00000049999999999999999999999", 0}, {"0.00000050000000000000000000", 1}, {"0.00000050000000000000000001", 1}, {"-0.00000050000000000000000001", -1},
		{"0.0000015", 2}, {"0.0000025", 3}, {"-0.0000015", -2}, {"-0.0000025", -3}, {"0.0000014", 1}, {"0.0000016", 2}, {"-0.0000014", -1}, {"-0.0000016", -2},
		{"0.9999994", 999999}, {"0.9999995", 1000000}, {"-0.9999995", -1000000}, {"9.9999995", 10000000}, {"99.99999949", 99999999}, {"-999.9999999", -1000000000}, {"1.2345678", 1234568}, {"1.2345674", 1234567},
	} {
		parses(t, x.s, num(x.n), true)
	}
}

func TestParseAtTheEndsOfTheRange(t *testing.T) {
	for _, x := range []struct {
		s string
		n int
	}{
		{"4611686018427.387904", api.MaxN}, {"+4611686018427.387904", api.MaxN}, {"-4611686018427.387904", -api.MaxN},
		{"4611686018427.387903", api.MaxN - 1}, {"-4611686018427.387903", 1 - api.MaxN}, {"4611686018427.3879", 4611686018427387900}, {"4611686018427", 4611686018427000000}, {"-4611686018427", -4611686018427000000},
		{"0004611686018427.3879040000", api.MaxN}, {"-0004611686018427.3879040000", -api.MaxN},
		{"4611686018427.3879044", api.MaxN}, {"-4611686018427.3879044", -api.MaxN}, {"4611686018427.38790449999999999", api.MaxN},
		{"4611686018427.3879035", api.MaxN}, {"-4611686018427.3879035", -api.MaxN}, {"4611686018427.3879034", api.MaxN - 1},
	} {
		parses(t, x.s, num(x.n), true)
	}
	for _, s := range []string{
		"4611686018427.387905", "4611686018427.387914", "4611686018427.4", "4611686018427.999999", "4611686018428", "4611686018437", "4611686018428.0",
		"5000000000000", "9223372036854.775807", "9223372036854.775808", "10000000000000", "46116860184270",
		// beyond by rounding alone
		"4611686018427.3879045", "4611686018427.3879049", "4611686018427.38790450000000", "4611686018427.38790450000001", "0004611686018427.3879045",
		// back in the range if they wrapped round
		"18446744073709.551616", "18446744073709.551617", "18446744073710", "36893488147419.103232", "18446744073709551616", "18446744073709551617", "184467440737095516160", "9223372036854775808", "340282366920938463463374607431768211456",
		"4611686018427387904", "4611686018427387905", "9999999999999999999", "99999999999999999999",
	} {
		parses(t, s, none, false)
		parses(t, "-"+s, none, false)
		parses(t, "+"+s, none, false)
	}
}

func TestParseOfManyDigits(t *testing.T) {
	noughts, nines := strings.Repeat("0", 1<<16), strings.Repeat("9", 1<<16)
	for _, x := range []struct {
		s    string
		want api.Val
		ok   bool
	}{
		{noughts, num(0), true}, {"-" + noughts, num(0), true}, {noughts + "12", num(12000000), true}, {"-" + noughts + "4611686018427.387904", num(-api.MaxN), true},
		{noughts + "." + noughts, num(0), true}, {noughts + "4611686018427.387904" + noughts, num(api.MaxN), true}, {"1." + noughts + "9", num(1000000), true}, {"1." + noughts, num(1000000), true},
		{"0." + nines, num(1000000), true}, {"-0." + nines, num(-1000000), true}, {"0.0000004" + nines, num(0), true}, {"0.0000005" + noughts, num(1), true}, {"-0.0000005" + noughts + "1", num(-1), true},
		{"4611686018427.3879044" + nines, num(api.MaxN), true}, {"4611686018427.3879045" + noughts, none, false}, {"4611686018427." + nines, none, false},
		{nines, none, false}, {"-" + nines, none, false}, {"1" + noughts, none, false}, {"1" + noughts + "." + noughts, none, false}, {nines + "." + nines, none, false}, {noughts + "1" + noughts, none, false},
	} {
		parses(t, x.s, x.want, x.ok)
	}
}

func TestParseOfWrongInputs(t *testing.T) {
	for _, s := range notNumbers() {
		parses(t, s, none, false)
	}
}

// everyText hands over all texts of up to so many of the letters.
func everyText(letters string, most int, use func(string)) {
	l := []string{""}
	for range most + 1 {
		var longer []string
		for _, s := range l {
			use(s)
			for i := range len(letters) {
				longer = append(longer, s+letters[i:i+1])
			}
		}
		l = longer
	}
}

func TestEveryShortTextIsRead(t *testing.T) {
	read := 0
	everyText("-+.059 x\xff", 5, func(s string) {
		v, ok := exactParse(s)
		parses(t, s, v, ok)
		n, ok := exactWhole(s)
		wholes(t, s, n, ok)
		if ok {
			read++
		}
	})
	// -?[059]+ of up to five letters
	if read != 363+120 {
		t.Error("whole numbers among them:", read)
	}
}

func TestEveryByteBesideDigitsIsRefused(t *testing.T) {
	for b := range 256 {
		c := string([]byte{byte(b)})
		for _, s := range []string{c, "1" + c, c + "1", "1" + c + "1", "1.5" + c, "1.5" + c + "5", "-" + c, "-1" + c, "1.00000000" + c} {
			v, ok := exactParse(s)
			parses(t, s, v, ok)
			n, ok := exactWhole(s)
			wholes(t, s, n, ok)
		}
	}
}

func TestParseIsExact(t *testing.T) {
	for _, n := range append(edges(), scattered(20000, 3)...) {
		// The same number with more digits behind the dot than are kept.
		long := new(big.Rat).SetFrac(big.NewInt(int64(n)), big.NewInt(api.Scale*1000)).FloatString(9)
		longer := new(big.Rat).SetFrac(big.NewInt(int64(n)), big.NewInt(api.Scale*10)).FloatString(7)
		plain := new(big.Rat).SetFrac(big.NewInt(int64(n)), big.NewInt(api.Scale)).FloatString(6)
		for _, s := range []string{strconv.Itoa(n), plain, longer, long, plain + "5", plain + "4999", plain + "50001"} {
			v, ok := exactParse(s)
			parses(t, s, v, ok)
		}
	}
}

// P2.1: Print

func TestPrint(t *testing.T) {
	for _, x := range []struct {
		n int
		s string
	}{
		{0, "0"}, {1000000, "1"}, {-1000000, "-1"}, {10000000, "10"}, {100000000, "100"}, {-120000000, "-120"}, {42000000, "42"},
		{1500000, "1.5"}, {-1500000, "-1.5"}, {1, "0.000001"}, {-1, "-0.000001"}, {10, "0.00001"}, {100, "0.0001"}, {1000, "0.001"}, {10000, "0.01"}, {100000, "0.1"}, {-100000, "-0.1"},
		{999999, "0.999999"}, {-999999, "-0.999999"}, {1000001, "1.000001"}, {-1000001, "-1.000001"}, {1000100, "1.0001"}, {1010000, "1.01"}, {1100000, "1.1"}, {10500000, "10.5"}, {100010100, "100.0101"}, {123456789, "123.456789"},
		{api.MaxN, "4611686018427.387904"}, {-api.MaxN, "-4611686018427.387904"}, {api.MaxN - 1, "4611686018427.387903"}, {4611686018427000000, "4611686018427"}, {4611686018427387900, "4611686018427.3879"},
	} {
		prints(t, num(x.n), x.s)
	}
}

func TestPrintOfNone(t *testing.T) {
	prints(t, none, "None")
	for _, v := range notValues() {
		prints(t, v, "None")
	}
}

func TestPrintIsExact(t *testing.T) {
	for _, n := range append(edges(), scattered(20000, 5)...) {
		s := "None"
		if exactInRange(big.NewInt(int64(n))) {
			s = exactPrint(n)
		}
		prints(t, num(n), s)
		if n != 0 {
			prints(t, api.Val{N: n}, "None")
		}
	}
}

// P2.2

func TestWhole(t *testing.T) {
	for _, x := range []struct {
		s string
		n int
	}{
		{"0", 0}, {"-0", 0}, {"1", 1}, {"-1", -1}, {"9", 9}, {"10", 10}, {"42", 42}, {"-42", -42}, {"1234567890", 1234567890},
		{"00", 0}, {"-00", 0}, {"007", 7}, {"-007", -7}, {"0100", 100},
		{"4611686018427387904", api.MaxN}, {"-4611686018427387904", -api.MaxN}, {"4611686018427387903", api.MaxN - 1}, {"-4611686018427387903", 1 - api.MaxN}, {"0004611686018427387904", api.MaxN}, {"-0004611686018427387904", -api.MaxN}, {"4611686018427387899", api.MaxN - 5},
		{strings.Repeat("0", 1<<16), 0}, {"-" + strings.Repeat("0", 1<<16) + "5", -5}, {strings.Repeat("0", 1<<16) + "4611686018427387904", api.MaxN},
	} {
		wholes(t, x.s, x.n, true)
	}
	for _, s := range []string{
		"4611686018427387905", "4611686018427387909", "4611686018427387910", "4611686018427387914", "5000000000000000000", "9223372036854775807", "9223372036854775808", "9999999999999999999", "46116860184273879040",
		// back in the range if they wrapped round
		"18446744073709551616", "18446744073709551617", "36893488147419103232", "184467440737095516160", "340282366920938463463374607431768211456",
		"0004611686018427387905", strings.Repeat("9", 1<<16), "1" + strings.Repeat("0", 1<<16), strings.Repeat("0", 1<<16) + "4611686018427387905",
	} {
		wholes(t, s, 0, false)
		wholes(t, "-"+s, 0, false)
	}
}

func TestWholeOfWrongInputs(t *testing.T) {
	for _, s := range notNumbers() {
		wholes(t, s, 0, false)
	}
	// Numbers of Parse that are not written as whole ones.
	for _, s := range []string{"+1", "+0", "1.5", "-1.5", "1.0", "0.0", "-0.0", "+1.0", "1.000000", "+4611686018427387904", "1.00000000"} {
		wholes(t, s, 0, false)
	}
}

func TestDigits(t *testing.T) {
	for _, x := range []struct {
		n int
		s string
	}{
		{0, "0"}, {1, "1"}, {-1, "-1"}, {9, "9"}, {10, "10"}, {-10, "-10"}, {100, "100"}, {-909, "-909"}, {1234567890, "1234567890"}, {1000000, "1000000"},
		{api.MaxN, "4611686018427387904"}, {-api.MaxN, "-4611686018427387904"}, {api.MaxN + 1, "4611686018427387905"},
		{math.MaxInt, "9223372036854775807"}, {-math.MaxInt, "-9223372036854775807"}, {math.MinInt, "-9223372036854775808"},
	} {
		digits(t, x.n, x.s)
	}
	for n := -12000; n <= 12000; n++ {
		digits(t, n, strconv.Itoa(n))
	}
	for _, n := range append(edges(), scattered(20000, 7)...) {
		digits(t, n, strconv.Itoa(n))
	}
}

func TestWholeReadsDigits(t *testing.T) {
	for _, n := range append(edges(), scattered(20000, 9)...) {
		if exactInRange(big.NewInt(int64(n))) {
			wholes(t, dec.Digits(n), n, true)
		} else {
			wholes(t, dec.Digits(n), 0, false)
		}
	}
}

// P2.3

func TestParseReadsWhatIsPrinted(t *testing.T) {
	for n := -3000000; n <= 3000000; n += 7 {
		parses(t, dec.Print(num(n)), num(n), true)
	}
	for _, n := range append(edges(), scattered(50000, 11)...) {
		if exactInRange(big.NewInt(int64(n))) {
			parses(t, dec.Print(num(n)), num(n), true)
		}
	}
	// None is no number, so that it is not read again.
	parses(t, dec.Print(none), none, false)
}

func TestResultsDependOnArgumentsAlone(t *testing.T) {
	texts := append(notNumbers(), "1", "-1.5", "+2", "0.0000005", "4611686018427.387904", "4611686018427387904", "4611686018427.3879045", "None")
	vals := append(notValues(), none, num(0), num(-1), num(api.MaxN), num(-api.MaxN))
	var first []any
	for turn := range 3 {
		var got []any
		for _, s := range texts {
			v, ok := dec.Parse(s)
			n, ok2 := dec.Whole(s)
			got = append(got, v, ok, n, ok2)
		}
		for _, v := range vals {
			got = append(got, dec.Print(v), dec.Digits(v.N))
		}
		if turn == 0 {
			first = got
		}
		for i := range got {
			if got[i] != first[i] {
				t.Fatalf("answer %d is %v, then %v", i, first[i], got[i])
			}
		}
	}
}

// The examples of the chapter.
func TestExamples(t *testing.T) {
	prints(t, num(-1500000), "-1.5")
	parses(t, "+.5", none, false)
}
