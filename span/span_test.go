package span_test

import (
	"slices"
	"strconv"
	"strings"
	"sync"
	"testing"
	"time"

	"graticule/api"
	"graticule/span"
)

func TestGivenLimits(t *testing.T) {
	if api.MaxTime != latest {
		t.Error("MaxTime:", api.MaxTime)
	}
	if api.OK != 0 || api.ErrTime != 7 || api.ErrSyntax != 8 {
		t.Error("errors:", int(api.OK), int(api.ErrTime), int(api.ErrSyntax))
	}
}

func TestExamples(t *testing.T) {
	atIs(t, "-5min", 1000, 700)
	dateIs(t, "19700102", 86400, true)
	clockIs(t, 86399, "1970-01-01 23:59:59")
}

// units are the chapter's table, with the most of each unit that is a time.
var units = []struct {
	names         []string
	seconds, most int
}{
	{[]string{"s", "sec", "secs", "second", "seconds"}, 1, 4294967295},
	{[]string{"min", "mins", "minute", "minutes"}, 60, 71582788},
	{[]string{"h", "hour", "hours"}, 3600, 1193046},
	{[]string{"d", "day", "days"}, 86400, 49710},
	{[]string{"w", "week", "weeks"}, 604800, 7101},
	{[]string{"mon", "month", "months"}, 2592000, 1657},
	{[]string{"y", "year", "years"}, 31536000, 136},
}

// everyUnit hands over each name of each unit.
func everyUnit(use func(name string, seconds, most int)) {
	for _, u := range units {
		for _, name := range u.names {
			use(name, u.seconds, u.most)
		}
	}
}

// P16.1

func TestInterval(t *testing.T) {
	for _, x := range []struct {
		s string
		n int
	}{
		{"1s", 1}, {"5min", 300}, {"-5min", -300}, {"+5min", 300}, {"2h", 7200}, {"-1d", -86400}, {"+1w", 604800}, {"3mon", 7776000}, {"-3months", -7776000}, {"1y", 31536000}, {"10years", 315360000},
		{"90seconds", 90}, {"1seconds", 1}, {"2second", 2}, {"36500d", 3153600000},
		{"007min", 420}, {"-00h", 0}, {"+0001day", 86400}, {"0123456789s", 123456789},
	} {
		intervalIs(t, x.s, x.n, true)
	}
}

func TestUnits(t *testing.T) {
	everyUnit(func(name string, seconds, _ int) {
		for _, n := range []int{0, 1, 2, 5, 7, 9, 10, 42, 60, 99, 100, 136} {
			digits := strconv.Itoa(n)
			for _, noughts := range []string{"", "0", "00", "00000000000000000000000000"} {
				intervalIs(t, noughts+digits+name, n*seconds, true)
				intervalIs(t, "+"+noughts+digits+name, n*seconds, true)
				intervalIs(t, "-"+noughts+digits+name, -n*seconds, true)
			}
		}
	})
}

func TestIntervalsUpToTheLastTime(t *testing.T) {
	everyUnit(func(name string, seconds, most int) {
		for _, noughts := range []string{"", "0", "0000000000000000000000", strings.Repeat("0", 1<<16)} {
			for n := most - 1; n <= most+1; n++ {
				want, ok := n*seconds, n <= most
				if !ok {
					want = 0
				}
				s := noughts + strconv.Itoa(n) + name
				intervalIs(t, s, want, ok)
				intervalIs(t, "+"+s, want, ok)
				intervalIs(t, "-"+s, -want, ok)
			}
		}
	})
}

func TestIntervalsOfTooManySeconds(t *testing.T) {
	counts := []string{
		"4294967296", "4294967297", "9999999999", "10000000000", "1000000000000",
		// the ends of what chapter 2 takes and of the integers
		"4611686018427387903", "4611686018427387904", "4611686018427387905", "9223372036854775807", "9223372036854775808",
		// back in the range if they, or so many of a unit, wrapped round
		"18446744073709551616", "18446744073709551617", "18446744073709551675", "36893488147419103233", "340282366920938463463374607431768211457",
		"307445734561825861", "5124095576030432", "213503982334602", "30500568904944", "7116799411154", "584942417356",
		"1152921504606846976", "144115188075855872", "72057594037927936", "288230376151711744",
		"1" + strings.Repeat("0", 100), strings.Repeat("9", 1<<16), "1" + strings.Repeat("0", 1<<16),
	}
	for _, n := range counts {
		everyUnit(func(name string, _, _ int) {
			for _, s := range []string{n, "0" + n, "0000000000000000000000" + n} {
				noInterval(t, s+name)
				noInterval(t, "+"+s+name)
				noInterval(t, "-"+s+name)
			}
		})
	}
	noInterval(t, strings.Repeat("0", 1<<16)+strings.Repeat("9", 1<<16)+"s")
}

// notIntervals are texts of all sorts that tell no duration.
func notIntervals() []string {
	l := []string{
		// a piece that is missing
		"", "-", "+", "5", "-5", "+5", "0", "s", "min", "-s", "+min", "-years",
		// signs
		"--5s", "++5s", "-+5s", "+-5s", "5-s", "5s-", "-5-s", "-5s-", "5+s", "\u22125s", "~5s",
		// blanks
		" ", " 5s", "5s ", "5 s", "- 5s", "-5 s", "+ 5s", "5\ts", "5s\n", "\n5s", "5s\r", "5s\x00", "\x005s", "5\u00a0s", "5\u2003min",
		// digits behind the unit, and two of them
		"5s5", "5s0", "s5", "min5", "5min5", "1h30min", "1d1h", "5s5s", "5minutes30seconds",
		// what is no whole number of them
		".5s", "5.s", "1.5s", "1.5h", "1.0d", "1,000s", "1_000s", "0x5s", "1e3s", "1/2h", "5:00min",
		// what is no unit
		"5m", "5M", "5mi", "5mo", "5mn", "5ms", "5us", "5ns", "5se", "5seco", "5secon", "5hr", "5hrs", "5ho", "5hou", "5da", "5dy", "5we", "5wee", "5wk", "5yr", "5yrs", "5ye", "5yea", "5q", "5quarter", "5century",
		"5ss", "5hs", "5ds", "5ws", "5mons2", "5mons", "5monthss", "5ys", "5secss", "5minn", "5minss", "5dayss", "5monday", "5mins.", "5s,", "5s;", "5(s)", "5'", "5\"",
		"now", "now-5s", "5s ago", "5sago", "ago", "today", "None", "true", "19700102", "00:00_19700102",
		// bytes beyond ASCII
		"\uff15s", "5\uff53", "\u0665s", "5\u017f", "5min\u0307", "5m\u0131n", "5\u043c\u0438\u043d", "\ufeff5s", "5s\u200b", "\u00b2s", "5\xff", "\xff5s", "5s\xff", "-\xff5s", "5\x80s", "\xb5s", "5\xf3",
	}
	return append(l, strings.Repeat("5", 1000), strings.Repeat("s", 1000), strings.Repeat("-", 1000), strings.Repeat("5s", 1000), "5"+strings.Repeat("s", 1<<16), strings.Repeat("0", 1<<16)+"5x", "x"+strings.Repeat("0", 1<<16)+"5s")
}

func TestTextsThatAreNoIntervals(t *testing.T) {
	for _, s := range notIntervals() {
		noInterval(t, s)
	}
}

func TestUnitsInCapitals(t *testing.T) {
	everyUnit(func(name string, _, _ int) {
		for i := range name {
			s := name[:i] + strings.ToUpper(name[i:i+1]) + name[i+1:]
			noInterval(t, "5"+s)
			noInterval(t, "-5"+s)
		}
		noInterval(t, "5"+strings.ToUpper(name))
	})
}

// Each text that has one byte more, one less or another one than an interval has.
func TestIntervalsWithAWrongByte(t *testing.T) {
	everyUnit(func(name string, _, _ int) {
		for _, sign := range []string{"", "-", "+"} {
			spoilt(sign+"10"+name, func(s string) {
				n, ok := intervalOf(s)
				intervalIs(t, s, n, ok)
			})
		}
	})
}

func TestShortIntervals(t *testing.T) {
	read := 0
	everyList([]string{"-", "+", "0", "9", "s", "min", "mon", "year", " "}, 5, func(s string) {
		n, ok := intervalOf(s)
		intervalIs(t, s, n, ok)
		if ok {
			read++
		}
	})
	// without a sign 120 of the four units and 28 of "mins" and "years", with one 112 and 24, but for 36 of too many months and years
	if want := 120 + 28 + 112 + 24 - 36; read != want {
		t.Errorf("intervals among them: %d, want %d", read, want)
	}
}

// P16.2: Date

func TestDate(t *testing.T) {
	for _, x := range []struct {
		s string
		n int
	}{
		{"19700101", 0}, {"19700102", 86400}, {"19700131", 2592000}, {"19700201", 2678400}, {"19701231", 31449600}, {"19710101", 31536000}, {"19710228", 36547200},
		{"19720228", 68083200}, {"19720229", 68169600}, {"19720301", 68256000}, {"19721231", 94608000}, {"19730101", 94694400},
		{"19991231", 946598400}, {"20000101", 946684800}, {"20000229", 951782400}, {"20000301", 951868800}, {"20001231", 978220800}, {"20010301", 983404800},
		{"20040229", 1078012800}, {"20240229", 1709164800}, {"20261120", 1795132800}, {"20380119", 2147472000}, {"20960229", 3981312000}, {"20991231", 4102358400},
		{"21000101", 4102444800}, {"21000228", 4107456000}, {"21000301", 4107542400}, {"21040229", 4233686400}, {"21051231", 4291660800}, {"21060101", 4291747200}, {"21060206", 4294857600}, {"21060207", 4294944000},
		{"00:00_19700101", 0}, {"00:01_19700101", 60}, {"01:00_19700101", 3600}, {"23:59_19700101", 86340}, {"00:00_19700102", 86400}, {"23:00_19700102", 169200},
		{"01:46_20010909", 999999960}, {"23:59_20000229", 951868740}, {"17:05_20261120", 1795194300}, {"03:14_20380119", 2147483640}, {"23:59_21000228", 4107542340},
		{"23:59_21060206", 4294943940}, {"00:00_21060207", 4294944000}, {"06:00_21060207", 4294965600}, {"06:27_21060207", 4294967220}, {"06:28_21060207", 4294967280},
	} {
		dateIs(t, x.s, x.n, true)
	}
}

// notDates are texts of all sorts that tell no day and no minute.
func notDates() []string {
	l := []string{
		// ahead of 1970
		"19691231", "23:59_19691231", "00:00_19691231", "19690101", "19000101", "00010101", "00000000", "00000101", "00001231", "23:59_00010101",
		// behind MaxTime
		"06:29_21060207", "06:30_21060207", "07:00_21060207", "23:59_21060207", "21060208", "00:00_21060208", "21060301", "21070101", "22000101", "99991231", "23:59_99991231",
		// days that there are not
		"19700100", "19700132", "19700229", "19700230", "19700231", "19700431", "19700631", "19700931", "19701131", "19701232", "19700199",
		"19710229", "19720230", "19000229", "20000230", "20230229", "20240230", "21000229", "21010229", "00:00_21000229", "12:30_20230431",
		// months that there are not
		"19700001", "19701301", "19709901", "19700000", "20001399", "00:00_20001301",
		// minutes that there are not
		"24:00_19700101", "24:01_19700101", "25:00_19700101", "99:00_19700101", "00:60_19700101", "23:60_19700101", "00:61_19700101", "00:99_19700101", "99:99_19700101", "24:00_20000229", "12:75_20000101",
		// a digit more or less
		"", "1", "1970", "197001", "1970010", "197001011", "0", "00", "0000000", "000000000", "019700101", "00019700101", "970101", "121970", "20000101000000",
		"0:00_19700101", ":00_19700101", "000:00_19700101", "00:0_19700101", "00:_19700101", "00:000_19700101", ":_19700101", "_19700101", "00_19700101", "0000_19700101", "00:00_1970010", "00:00_197001011", "00:00_", "00:00", "00:00_00:00", "1:00_19700101", "12:5_20000101", "9:5_20000101",
		// other bytes in the place of the colon and of the stroke
		"00.00_19700101", "00-00_19700101", "00_00_19700101", "00h00_19700101", "00 00_19700101", "00;00_19700101", "00:00-19700101", "00:00 19700101", "00:00:19700101", "00:00T19700101", "00:0019700101", "0000:19700101", "00::00_19700101", "00:00__19700101", "00:00:00_19700101", "00:00_19700101_", "_00:00_19700101", "19700101_", "19700101_00:00", "00:00_00:00_19700101", "00\u223600_19700101", "00:00\u203f19700101",
		// signs, blanks, dots and letters
		"-9700101", "+9700101", "-19700101", "+19700101", "1970-101", "1970+101", "197001-1", "197001+1", "1970-1-1", "1970-01-01", "1970/01/01", "1970.101", "1970 101", " 9700101", "1970010 ", " 19700101", "19700101 ", "19700101\n", "\n19700101", "19700101\x00", "1970010a", "x9700101", "1970x101", "0x700101", "1e700101", "1_700101",
		"-1:00_19700101", "+1:00_19700101", "00:-1_19700101", "00:+1_19700101", " 0:00_19700101", "00: 0_19700101", "00:0 _19700101", "0a:00_19700101", "00:0a_19700101", "00:00_-9700101", "00:00_+9700101", "00:00_ 9700101", "-00:00_19700101", "00:00_19700101 ", " 00:00_19700101", "00:00_19700101\n", "12:00am_20000101", "00:00_1970-01-01",
		"now", "today", "midnight_20000101", "None", "true", "5min", "-5min", "YYYYMMDD", "HH:MM_YYYYMMDD",
		// bytes beyond ASCII, digits of other scripts among them
		"1970010\uff11", "\uff11\uff19\uff17\uff10\uff10\uff11\uff10\uff11", "\u06611970", "19\u0667\u0660\u0660\u0661\u0660", "1970\u00b9101", "\ufeff19700101", "1970010\xff", "\xff9700101", "19700101\xff", "1970\xb0101", "00:0\xb0_19700101", "0\u0660:00_19700101", "\xff0:00_19700101", "00\xff00_19700101", "00:00\xff19700101",
	}
	noughts := strings.Repeat("0", 1<<16)
	return append(l, noughts, noughts+"19700101", "19700101"+noughts, noughts+":"+noughts+"_"+noughts, "00:00_"+noughts+"19700101", noughts+"00:00_19700101", strings.Repeat("_", 1<<16), strings.Repeat(":", 1<<16), strings.Repeat("9", 1<<16), strings.Repeat("00:00_", 1<<12)+"19700101")
}

func TestTextsThatAreNoDates(t *testing.T) {
	for _, s := range notDates() {
		noDate(t, s)
	}
}

// Each month's last day and what would be the next one.
func TestLengthsOfMonths(t *testing.T) {
	for _, x := range []struct {
		year string
		days []string
	}{
		{"1970", strings.Fields("31 28 31 30 31 30 31 31 30 31 30 31")},
		{"2000", strings.Fields("31 29 31 30 31 30 31 31 30 31 30 31")},
		{"2023", strings.Fields("31 28 31 30 31 30 31 31 30 31 30 31")},
		{"2024", strings.Fields("31 29 31 30 31 30 31 31 30 31 30 31")},
		{"2100", strings.Fields("31 28 31 30 31 30 31 31 30 31 30 31")},
		{"2104", strings.Fields("31 29 31 30 31 30 31 31 30 31 30 31")},
	} {
		for i, last := range x.days {
			month := x.year + strconv.Itoa(101 + i)[1:]
			if _, ok := span.Date(month + last); !ok {
				t.Errorf("%s is a day", month+last)
			}
			n, _ := strconv.Atoi(month + last)
			noDate(t, strconv.Itoa(n+1))
			noDate(t, month+"00")
		}
	}
}

func TestDatesOfAllYears(t *testing.T) {
	read := 0
	for year := range 10000 {
		for _, rest := range []string{"0101", "0131", "0132", "0207", "0208", "0228", "0229", "0230", "0301", "0630", "0631", "1231", "1301", "0000", "0100", "0001", "9999"} {
			s := strconv.Itoa(10000 + year)[1:] + rest
			n, ok := dateOf(s)
			dateIs(t, s, n, ok)
			dateIs(t, "00:00_"+s, n, ok)
			if ok {
				read++
			}
		}
	}
	// eight days of each year to 2105, and February's last one of 34 leap years; three days of 2106
	if want := 136*8 + 33 + 3; read != want {
		t.Errorf("days among them: %d, want %d", read, want)
	}
}

func TestDatesOfSomeYears(t *testing.T) {
	for _, year := range []string{"1969", "1970", "1972", "2000", "2026", "2100", "2106"} {
		for rest := range 10000 {
			s := year + strconv.Itoa(10000 + rest)[1:]
			n, ok := dateOf(s)
			dateIs(t, s, n, ok)
			if ok {
				n += 23280
			}
			dateIs(t, "06:28_"+s, n, ok)
		}
	}
}

func TestMinutesOfADay(t *testing.T) {
	for _, day := range []string{"19691231", "19700101", "20000229", "21060206", "21060207", "21060208", "20010229"} {
		read := 0
		for hours := range 100 {
			for minutes := range 100 {
				s := strconv.Itoa(100 + hours)[1:] + ":" + strconv.Itoa(100 + minutes)[1:] + "_" + day
				n, ok := dateOf(s)
				dateIs(t, s, n, ok)
				if ok {
					read++
				}
			}
		}
		want := map[string]int{"19700101": 1440, "20000229": 1440, "21060206": 1440, "21060207": 6*60 + 29}[day]
		if read != want {
			t.Errorf("minutes of %s: %d, want %d", day, read, want)
		}
	}
}

// All days and, of each of them, a minute: each is 86400 seconds behind the one ahead.
func TestEachDay(t *testing.T) {
	begin := time.Date(1970, 1, 1, 0, 0, 0, 0, time.UTC)
	for n := range latest/86400 + 1 {
		day := begin.AddDate(0, 0, n).Format("20060102")
		dateIs(t, day, n*86400, true)
		minutes := n * 7 % 389
		dateIs(t, strconv.Itoa(100 + minutes/60)[1:]+":"+strconv.Itoa(100 + minutes%60)[1:]+"_"+day, n*86400+minutes*60, true)
	}
}

// Each text that has one byte more, one less or another one than a date has.
func TestDatesWithAWrongByte(t *testing.T) {
	for _, s := range []string{"19700101", "20000229", "21060207", "20111111", "00:00_19700101", "23:59_20000229", "06:28_21060207", "11:11_20111111"} {
		spoilt(s, func(s string) {
			n, ok := dateOf(s)
			dateIs(t, s, n, ok)
		})
	}
}

// P16.2: At

func TestAtNow(t *testing.T) {
	for _, now := range []int{0, 1, 1000, 1795132800, latest - 1, latest} {
		atIs(t, "now", now, now)
		for _, sign := range []string{"+", "-"} {
			atIs(t, "now"+sign+"0s", now, now)
			atIs(t, sign+"00years", now, now)
		}
	}
	for _, x := range []struct {
		s         string
		now, want int
	}{
		{"-5min", 1000, 700}, {"+5min", 1000, 1300}, {"-1000s", 1000, 0}, {"-999s", 1000, 1}, {"+1s", 0, 1}, {"-1d", 86400, 0}, {"-1h", 1795132800, 1795129200}, {"+1w", 1795132800, 1795737600},
		{"-0007min", 1000, 580}, {"+1y", 1, 31536001}, {"-136years", latest, 6071295}, {"+136y", 6071295, latest}, {"+4294967295s", 0, latest}, {"-4294967295s", latest, 0}, {"-1mon", 2592000, 0}, {"+49710d", 23295, latest},
	} {
		atIs(t, x.s, x.now, x.want)
		atIs(t, "now"+x.s, x.now, x.want)
	}
}

func TestAtOfEachUnit(t *testing.T) {
	const now = 4294967295 / 2
	everyUnit(func(name string, seconds, _ int) {
		atIs(t, "-3"+name, now, now-3*seconds)
		atIs(t, "+3"+name, now, now+3*seconds)
		atIs(t, "now-3"+name, now, now-3*seconds)
		atIs(t, "now+3"+name, now, now+3*seconds)
		for _, s := range []string{"3" + name, "now3" + name, "now 3" + name, "now" + name, "-" + name, "now-" + name, "now--3" + name, "now-3" + name + "-3" + name, "-3" + name + "now", "nownow-3" + name, "now-now-3" + name, "now-3" + strings.ToUpper(name)} {
			atFails(t, s, now, api.ErrSyntax)
		}
	})
}

func TestAtOfDates(t *testing.T) {
	for _, x := range []struct {
		s string
		n int
	}{
		{"19700101", 0}, {"19700102", 86400}, {"20000229", 951782400}, {"20261120", 1795132800}, {"21060207", 4294944000},
		{"00:00_19700101", 0}, {"23:59_20000229", 951868740}, {"17:05_20261120", 1795194300}, {"06:28_21060207", 4294967280},
	} {
		for _, now := range nows {
			atIs(t, x.s, now, x.n)
		}
	}
	for _, s := range notDates() {
		n, err := atOf(s, 1000)
		atIsWith(t, s, 1000, n, err)
	}
}

func TestAtOfDigits(t *testing.T) {
	noughts := strings.Repeat("0", 1<<16)
	for _, x := range []struct {
		s string
		n int
	}{
		{"0", 0}, {"1", 1}, {"9", 9}, {"42", 42}, {"1000", 1000}, {"0000", 0}, {"007", 7}, {"1234567", 1234567}, {"9999999", 9999999}, {"0000000", 0}, {"1970010", 1970010}, {"197001", 197001},
		{"100000000", 100000000}, {"123456789", 123456789}, {"999999999", 999999999}, {"197001011", 197001011}, {"019700101", 19700101}, {"000000000", 0}, {"000000001", 1}, {"012345678", 12345678},
		{"1000000000", 1000000000}, {"1795132800", 1795132800}, {"2147483648", 2147483648}, {"4294967294", 4294967294}, {"4294967295", 4294967295}, {"0000000001", 1}, {"0019700101", 19700101},
		{"00000000000000000000000", 0}, {"04294967295", latest}, {"000000000000000000004294967295", latest}, {noughts, 0}, {noughts + "4294967295", latest}, {noughts + "19700101", 19700101},
	} {
		for _, now := range nows {
			atIs(t, x.s, now, x.n)
		}
	}
	for _, s := range []string{
		"4294967296", "4294967297", "9999999999", "04294967296", "10000000000", "20000101000000", "999999999999999", "4611686018427387903", "4611686018427387904",
		// what chapter 2 refuses
		"4611686018427387905", "9223372036854775807", "9223372036854775808", "18446744073709551616", "18446744073709551617", "18446744073709552616", "36893488147419103232", "340282366920938463463374607431768211456", "0004611686018427387905",
		strings.Repeat("9", 1<<16), "1" + noughts, noughts + "4294967296", noughts + strings.Repeat("9", 1<<16),
	} {
		for _, now := range nows {
			atFails(t, s, now, api.ErrTime)
		}
	}
}

// Just eight digits are a day or nothing.
func TestAtOfEightDigits(t *testing.T) {
	for _, s := range []string{"00000000", "00000001", "00001000", "12345678", "99999999", "10000000", "42949672", "19691231", "19700100", "19700001", "19701301", "19700132", "19700229", "21000229", "20230229", "21060208", "22000101"} {
		for _, now := range nows {
			atFails(t, s, now, api.ErrSyntax)
		}
	}
	d := dice{seed: 16}
	for range 100000 {
		n := d.upTo(100000000)
		if d.upTo(2) == 0 {
			n = 19500000 + n%2000000/100*100 + d.upTo(33)
		}
		s := strconv.Itoa(100000000 + n)[1:]
		want, err := atOf(s, 1000)
		atIsWith(t, s, 1000, want, err)
	}
}

func TestTextsThatAreNoTimes(t *testing.T) {
	l := []string{
		"", "n", "no", "ow", "nownow", "Now", "NOW", "nOw", "now ", " now", "now\n", "\nnow", "now\x00", "xnow", "nowx", "now5", "now0", "now-", "now+", "now-5", "now+5", "now-s", "now+min", "now5s", "now5min", "nowmin",
		"now -5min", "now- 5min", "now-5 min", "now-5min ", "now--5min", "now-+5min", "now+-5min", "now++5min", "now-5min+5min", "now-5m", "now-5MIN", "now-1.5h", "now*5s", "now/5s", "now,-5s", "now.-5s", "now_-5s",
		"now19700102", "now-19700102", "now+19700102", "now00:00_19700102", "now-00:00_19700102", "now1000", "now-now", "-now", "+now", "-now-5min", "+now+5min", "5min", "0s", "1d", "5minutes", "5min-now",
		"-", "+", "-5", "+5", "-0", "+0", "-19700102", "+19700102", "-00:00_19700102", "+1000000000", "-1000000000", "-1", " 5", "5 ", "1 000", "1,000", "1_000", "1.0", "1.", ".5", "5e1", "0x10", "1000000000.0",
		"today", "yesterday", "midnight", "noon", "None", "true", "a", "x1000000000", "1000000000x", "\u06611000", "\uff11", "1\uff10", "now\u22125min", "now-\uff15min", "n\u043ew", "\xff", "now\xff", "now-\xff", "-5min\xff", "1000\xff", "\xff1000",
	}
	l = append(l, strings.Repeat("now", 1000), "now"+strings.Repeat("-", 1<<16), strings.Repeat("-", 1<<16)+"5min", strings.Repeat("9", 1<<16)+"x", "now-"+strings.Repeat("0", 1<<16), "now"+strings.Repeat("0", 1<<16)+"5min")
	for _, s := range l {
		for _, now := range nows {
			atFails(t, s, now, api.ErrSyntax)
		}
	}
	for _, s := range slices.Concat(notIntervals(), notDates()) {
		for _, now := range nows {
			n, err := atOf(s, now)
			atIsWith(t, s, now, n, err)
			n, err = atOf("now"+s, now)
			atIsWith(t, "now"+s, now, n, err)
		}
	}
}

func TestResultsOutsideOfTheTimes(t *testing.T) {
	for _, x := range []struct {
		s   string
		now int
		// what it is one second later, or earlier
		other, want int
	}{
		{"-1s", 0, 1, 0}, {"-5min", 299, 300, 0}, {"-1h", 3599, 3600, 0}, {"-1d", 86399, 86400, 0}, {"-1w", 604799, 604800, 0}, {"-1mon", 2591999, 2592000, 0}, {"-1y", 31535999, 31536000, 0}, {"-4294967295s", latest - 1, latest, 0},
		{"+1s", latest, latest - 1, latest}, {"+5min", latest - 299, latest - 300, latest}, {"+1h", latest - 3599, latest - 3600, latest}, {"+1d", latest - 86399, latest - 86400, latest}, {"+1y", latest - 31535999, latest - 31536000, latest}, {"+4294967295s", 1, 0, latest},
	} {
		for _, word := range []string{"", "now"} {
			atFails(t, word+x.s, x.now, api.ErrTime)
			atIs(t, word+x.s, x.other, x.want)
		}
	}
	for _, word := range []string{"", "now"} {
		atFails(t, word+"+4294967295s", latest, api.ErrTime)
		atFails(t, word+"-4294967295s", 0, api.ErrTime)
	}
}

// A now that is no time is an error where the time is told by it, also where the sum would be one, and nowhere else.
func TestNowsThatAreNoTimes(t *testing.T) {
	for _, now := range []int{-1, -2, -1000, -1 << 32, -1 << 62, -1 << 63, 1 - 1<<63, latest + 1, latest + 2, 1 << 33, 1 << 62, 1<<63 - 1, 1<<63 - 86400} {
		for _, s := range []string{"now", "now+0s", "now-0s", "+0s", "-0s", "+1s", "-1s", "now+1s", "now-1s", "+2s", "-2s", "+1000s", "-1d", "now+1d", "+136y", "-136y", "+4294967295s", "-4294967295s", "now+4294967295s", "now-4294967295s"} {
			atFails(t, s, now, api.ErrTime)
		}
		atIs(t, "1000", now, 1000)
		atIs(t, "1795132800", now, 1795132800)
		atIs(t, "20261120", now, 1795132800)
		atIs(t, "17:05_20261120", now, 1795194300)
	}
}

func TestWhichErrorOfAt(t *testing.T) {
	for _, x := range []struct {
		s    string
		want api.Errno
	}{
		// no form, whatever now is
		{"", api.ErrSyntax}, {"now5s", api.ErrSyntax}, {"5s", api.ErrSyntax}, {"now+", api.ErrSyntax}, {"now ", api.ErrSyntax}, {"+5", api.ErrSyntax}, {"--5s", api.ErrSyntax}, {"12345678", api.ErrSyntax}, {"19691231", api.ErrSyntax}, {"06:29_21060207", api.ErrSyntax}, {"24:00_20000101", api.ErrSyntax},
		// what Interval refuses is no Interval
		{"+4294967296s", api.ErrSyntax}, {"-4294967296s", api.ErrSyntax}, {"now+4294967296s", api.ErrSyntax}, {"now-137y", api.ErrSyntax}, {"+137y", api.ErrSyntax}, {"-18446744073709551616s", api.ErrSyntax}, {"now-" + strings.Repeat("9", 1000) + "d", api.ErrSyntax},
		// a form, and no time
		{"4294967296", api.ErrTime}, {"9223372036854775808", api.ErrTime}, {strings.Repeat("9", 1000), api.ErrTime},
	} {
		for _, now := range nows {
			atFails(t, x.s, now, x.want)
		}
	}
}

// Each text that has one byte more, one less or another one than a time has.
func TestTimesWithAWrongByte(t *testing.T) {
	for _, s := range []string{"now", "now-5min", "now+10d", "-5min", "+11s", "20000229", "11:11_20111111", "123456789", "1234567"} {
		spoilt(s, func(s string) {
			for _, now := range []int{1000, 1000000, -1} {
				n, err := atOf(s, now)
				atIsWith(t, s, now, n, err)
			}
		})
	}
}

func TestShortTimes(t *testing.T) {
	everyList([]string{"now", "-", "+", "0", "9", "s", "year", "19700102", "00:00_", " "}, 4, func(s string) { holds(t, s) })
}

func TestScatteredTimes(t *testing.T) {
	d := dice{seed: 2106}
	sizes := []int{2, 100, 10000, 100000000, latest + 1, 1 << 40}
	signs := []string{"", "-", "+", "now", "now-", "now+"}
	for range 100000 {
		u := units[d.upTo(len(units))]
		n := d.upTo(sizes[d.upTo(len(sizes))])
		s := signs[d.upTo(len(signs))] + strconv.Itoa(n)
		if d.upTo(4) > 0 {
			s += u.names[d.upTo(len(u.names))]
		}
		now := d.upTo(latest + 1)
		want, err := atOf(s, now)
		atIsWith(t, s, now, want, err)
		length, ok := intervalOf(s)
		intervalIs(t, s, length, ok)
	}
}

// P16.2: Clock

func TestClock(t *testing.T) {
	for _, x := range []struct {
		n int
		s string
	}{
		{0, "1970-01-01 00:00:00"}, {1, "1970-01-01 00:00:01"}, {59, "1970-01-01 00:00:59"}, {60, "1970-01-01 00:01:00"}, {3599, "1970-01-01 00:59:59"}, {3600, "1970-01-01 01:00:00"}, {43200, "1970-01-01 12:00:00"}, {86399, "1970-01-01 23:59:59"}, {86400, "1970-01-02 00:00:00"},
		{2678399, "1970-01-31 23:59:59"}, {2678400, "1970-02-01 00:00:00"}, {5097599, "1970-02-28 23:59:59"}, {5097600, "1970-03-01 00:00:00"}, {31535999, "1970-12-31 23:59:59"}, {31536000, "1971-01-01 00:00:00"},
		{68169599, "1972-02-28 23:59:59"}, {68169600, "1972-02-29 00:00:00"}, {68255999, "1972-02-29 23:59:59"}, {68256000, "1972-03-01 00:00:00"}, {94694399, "1972-12-31 23:59:59"}, {94694400, "1973-01-01 00:00:00"},
		{946684799, "1999-12-31 23:59:59"}, {946684800, "2000-01-01 00:00:00"}, {951782400, "2000-02-29 00:00:00"}, {951868799, "2000-02-29 23:59:59"}, {951868800, "2000-03-01 00:00:00"}, {999999999, "2001-09-09 01:46:39"}, {1000000000, "2001-09-09 01:46:40"},
		{1234567890, "2009-02-13 23:31:30"}, {1795194309, "2026-11-20 17:05:09"}, {2147483647, "2038-01-19 03:14:07"}, {2147483648, "2038-01-19 03:14:08"},
		{4102444799, "2099-12-31 23:59:59"}, {4102444800, "2100-01-01 00:00:00"}, {4107542399, "2100-02-28 23:59:59"}, {4107542400, "2100-03-01 00:00:00"}, {4294943999, "2106-02-06 23:59:59"}, {4294944000, "2106-02-07 00:00:00"}, {4294967294, "2106-02-07 06:28:14"}, {4294967295, "2106-02-07 06:28:15"},
	} {
		clockIs(t, x.n, x.s)
	}
}

func TestClockOutsideOfTheTimes(t *testing.T) {
	for _, n := range []int{-1, -2, -86400, -latest, -1 << 32, -1 << 62, 1 - 1<<63, -1 << 63} {
		clockIs(t, n, "1970-01-01 00:00:00")
	}
	for _, n := range []int{latest + 1, latest + 2, latest + 86400, 1 << 33, 1 << 62, 1<<63 - 1, 1<<63 - 86400} {
		clockIs(t, n, "2106-02-07 06:28:15")
	}
}

// The seconds around each midnight and one in between; each day is read back.
func TestClockOfEachDay(t *testing.T) {
	for n := range latest/86400 + 1 {
		begin := n * 86400
		for _, at := range []int{begin - 1, begin, begin + 1, begin + 1 + n*7919%86398} {
			clockIs(t, at, clockOf(at))
		}
		day := strings.ReplaceAll(span.Clock(begin)[:10], "-", "")
		dateIs(t, day, begin, true)
	}
}

func TestClockOfEachSecondOfADay(t *testing.T) {
	for _, begin := range []int{0, 951782400, 4294944000 - 86400} {
		for at := begin; at < begin+86400; at++ {
			clockIs(t, at, clockOf(at))
		}
	}
}

// Each minute that Clock tells is read back.
func TestClockIsReadBack(t *testing.T) {
	d := dice{seed: 1970}
	for range 100000 {
		n := d.upTo(latest + 1)
		s := span.Clock(n)
		if s != clockOf(n) {
			t.Fatalf("Clock(%d): got %q", n, s)
		}
		dateIs(t, s[11:16]+"_"+strings.ReplaceAll(s[:10], "-", ""), n/60*60, true)
	}
}

// P16.3

func TestDigitsOfTimes(t *testing.T) {
	ask := func(n int) {
		for _, now := range nows {
			atIs(t, strconv.Itoa(n), now, n)
		}
	}
	for _, n := range []int{100000000, 100000001, 123456789, 197001010, 197001019, 200001011, 999999998, 999999999, 1000000000, 1000000001, 1970010100, 1970010199, 2000010112, 2147483647, 2147483648, 4294967294, 4294967295} {
		ask(n)
	}
	for n := 100000000; n <= latest; n += 99991 {
		ask(n)
	}
}

// What holds everywhere

func TestItEnds(t *testing.T) {
	const n = 1 << 24
	noughts, signs := strings.Repeat("0", n), strings.Repeat("-", n)
	for _, s := range []string{noughts, signs, strings.Repeat("9", n), strings.Repeat("s", n), strings.Repeat("_", n), strings.Repeat(":", n), strings.Repeat("\xff", n)} {
		noInterval(t, s)
		noDate(t, s)
		noDate(t, "00:00_"+s)
		noDate(t, s+"_19700101")
	}
	intervalIs(t, noughts+"5min", 300, true)
	intervalIs(t, "-"+noughts+"5min", -300, true)
	atIs(t, noughts+"5", 1000, 5)
	atIs(t, "now-"+noughts+"5s", 1000, 995)
	atFails(t, "9"+noughts, 1000, api.ErrTime)
	atFails(t, "now"+signs, 1000, api.ErrSyntax)
}

// samples are texts of all forms, and some of none.
var samples = []string{"now", "now-5min", "now+1d", "-5min", "+1y", "5min", "007h", "19700102", "20000229", "06:28_21060207", "1000000000", "4294967296", "12345678", "137y", "", "x", "now+", "24:00_20000101", "99999999999999999999"}

func TestArgumentsAreNeitherChangedNorKept(t *testing.T) {
	for _, s := range samples {
		b := []byte(s)
		span.Interval(over(b))
		span.Date(over(b))
		span.At(over(b), 1000000)
		if string(b) != s {
			t.Errorf("the argument %q has changed to %q", s, b)
		}
		for i := range b {
			b[i] = '#'
		}
		holds(t, s)
	}
}

func TestResultsShareNoMemory(t *testing.T) {
	var l []string
	for _, n := range []int{0, 0, 1, 86399, 1795194309, 1795194309, latest, latest, latest + 1, -1} {
		l = append(l, span.Clock(n))
	}
	for i, a := range l {
		for _, b := range l[:i] {
			if meet(a, b) {
				t.Errorf("%q and %q share memory", a, b)
			}
		}
	}
}

func TestResultsDependOnTheirArgumentsAlone(t *testing.T) {
	ask := func() {
		for _, s := range samples {
			holds(t, s)
		}
		for _, n := range nows {
			clockIs(t, n, clockOf(n))
		}
	}
	for _, ahead := range samples {
		holds(t, ahead)
		ask()
	}
	var w sync.WaitGroup
	for range 8 {
		w.Go(func() {
			for range 50 {
				ask()
			}
		})
	}
	w.Wait()
}
