package span

import (
	"strings"

	"graticule/api"
	"graticule/dec"
)

const (
	decimals     = "0123456789"
	midnight     = "00:00"
	digitsOfDate = len("YYYYMMDD")
)

// areDigits tells whether s is one digit or more and nothing else.
func areDigits(s string) bool { return s != "" && strings.TrimLeft(s, decimals) == "" }

// numberOf is the number that just so many digits are.
func numberOf(s string, digits int) (int, bool) {
	if !areDigits(s) || len(s) != digits {
		return 0, false
	}
	return dec.Whole(s)
}

// minutesIn is how many minutes of a day lie ahead of HH:MM; false if there is no such minute.
func minutesIn(s string) (int, bool) {
	ahead, behind, _ := strings.Cut(s, ":")
	hours, ok := numberOf(ahead, 2)
	minutes, also := numberOf(behind, 2)
	return 60*hours + minutes, ok && also && hours < 24 && minutes < 60
}

// dateIn is the day YYYYMMDD; false if there is no such day.
func dateIn(s string) (date, bool) {
	n, ok := numberOf(s, digitsOfDate)
	d := date{year: n / 10000, month: n / 100 % 100, day: n % 100}
	return d, ok && d.is()
}

// fromNow is how many seconds behind now a text tells; false if it doesn't tell a time by now.
func fromNow(s string) (int, bool) {
	interval, ok := strings.CutPrefix(s, "now")
	if ok && interval == "" {
		return 0, true
	}
	if interval == "" || strings.IndexByte("-+", interval[0]) < 0 {
		return 0, false
	}
	return Interval(interval)
}

func isTime(t int) bool { return 0 <= t && t <= api.MaxTime }

// answer is a time, as long as it is known and in the range.
func answer(t int, known bool) (int, api.Errno) {
	if !known || !isTime(t) {
		return 0, api.ErrTime
	}
	return t, api.OK
}

// two is a number below 100 in two digits.
func two(n int) string {
	// The hundred that is added, and cut off, keeps the nought ahead.
	return dec.Digits(100 + n)[1:]
}
