package span_test

import (
	"fmt"
	"math/big"
	"regexp"
	"strconv"
	"strings"
	"testing"
	"time"
	"unsafe"

	"graticule/api"
	"graticule/span"
)

const latest = 4294967295

// nows are times and what is none, each of which may be handed in as now.
var nows = []int{0, 1, 59, 60, 1000, 86400, 1000000000, latest - 60, latest - 1, latest, latest + 1, latest + 60, 1 << 40, 1<<63 - 1, -1, -60, -1000, -1 << 40, -1 << 63}

// lengths are the units by their names.
var lengths = map[string]int64{
	"s": 1, "sec": 1, "secs": 1, "second": 1, "seconds": 1,
	"min": 60, "mins": 60, "minute": 60, "minutes": 60,
	"h": 3600, "hour": 3600, "hours": 3600,
	"d": 86400, "day": 86400, "days": 86400,
	"w": 604800, "week": 604800, "weeks": 604800,
	"mon": 2592000, "month": 2592000, "months": 2592000,
	"y": 31536000, "year": 31536000, "years": 31536000,
}

var (
	intervalForm = regexp.MustCompile(`\A([-+]?)([0-9]+)([a-z]+)\z`)
	dateForm     = regexp.MustCompile(`\A(?:([0-9]{2}):([0-9]{2})_)?([0-9]{4})([0-9]{2})([0-9]{2})\z`)
	nowForm      = regexp.MustCompile(`(?s)\Anow([-+].*)\z`)
	digitsForm   = regexp.MustCompile(`\A[0-9]+\z`)
)

// intervalOf is what Interval is to answer.
func intervalOf(s string) (int, bool) {
	l := intervalForm.FindStringSubmatch(s)
	if l == nil || lengths[l[3]] == 0 {
		return 0, false
	}
	n, ok := new(big.Int).SetString(l[2], 10)
	if !ok {
		panic(s)
	}
	n.Mul(n, big.NewInt(lengths[l[3]]))
	if n.Cmp(big.NewInt(latest)) > 0 {
		return 0, false
	}
	if l[1] == "-" {
		n.Neg(n)
	}
	return int(n.Int64()), true
}

// dateOf is what Date is to answer.
func dateOf(s string) (int, bool) {
	l := dateForm.FindStringSubmatch(s)
	if l == nil {
		return 0, false
	}
	var n [6]int
	for i, digits := range l[1:] {
		n[i+1], _ = strconv.Atoi(digits)
	}
	t := time.Date(n[3], time.Month(n[4]), n[5], n[1], n[2], 0, 0, time.UTC)
	// What there is not comes back as something else.
	if t.Year() != n[3] || int(t.Month()) != n[4] || t.Day() != n[5] || t.Hour() != n[1] || t.Minute() != n[2] {
		return 0, false
	}
	if t.Unix() < 0 || t.Unix() > latest {
		return 0, false
	}
	return int(t.Unix()), true
}

// atOf is what At is to answer.
func atOf(s string, now int) (int, api.Errno) {
	interval := s
	switch l := nowForm.FindStringSubmatch(s); {
	case s == "now":
		interval = "+0s"
	case l != nil:
		interval = l[1]
	}
	if n, ok := intervalOf(interval); ok && strings.ContainsAny(interval[:1], "-+") {
		if now < 0 || now > latest {
			return 0, api.ErrTime
		}
		return inTime(big.NewInt(int64(now + n)))
	}
	if t, ok := dateOf(s); ok {
		return t, api.OK
	}
	if digitsForm.MatchString(s) && len(s) != 8 {
		t, _ := new(big.Int).SetString(s, 10)
		return inTime(t)
	}
	return 0, api.ErrSyntax
}

func inTime(t *big.Int) (int, api.Errno) {
	if t.Sign() < 0 || t.Cmp(big.NewInt(latest)) > 0 {
		return 0, api.ErrTime
	}
	return int(t.Int64()), api.OK
}

// clockOf is what Clock is to answer.
func clockOf(t int) string {
	return time.Unix(int64(min(max(t, 0), latest)), 0).UTC().Format("2006-01-02 15:04:05")
}

// short is a text that may be too long to be shown.
func short(s string) string {
	if len(s) <= 80 {
		return strconv.Quote(s)
	}
	return fmt.Sprintf("%q .. %q (%d bytes)", s[:40], s[len(s)-40:], len(s))
}

func intervalIs(t *testing.T, s string, want int, wantOk bool) {
	t.Helper()
	if n, ok := span.Interval(s); n != want || ok != wantOk {
		t.Errorf("Interval(%s): got %d %t, want %d %t", short(s), n, ok, want, wantOk)
	}
}

func noInterval(t *testing.T, s string) {
	t.Helper()
	intervalIs(t, s, 0, false)
}

func dateIs(t *testing.T, s string, want int, wantOk bool) {
	t.Helper()
	if n, ok := span.Date(s); n != want || ok != wantOk {
		t.Errorf("Date(%s): got %d %t, want %d %t", short(s), n, ok, want, wantOk)
	}
}

func noDate(t *testing.T, s string) {
	t.Helper()
	dateIs(t, s, 0, false)
}

func atIs(t *testing.T, s string, now, want int) {
	t.Helper()
	atIsWith(t, s, now, want, api.OK)
}

func atFails(t *testing.T, s string, now int, want api.Errno) {
	t.Helper()
	atIsWith(t, s, now, 0, want)
}

func atIsWith(t *testing.T, s string, now, want int, wantErr api.Errno) {
	t.Helper()
	if n, err := span.At(s, now); n != want || err != wantErr {
		t.Errorf("At(%s, %d): got %d, error %d, want %d, error %d", short(s), now, n, err, want, wantErr)
	}
}

func clockIs(t *testing.T, n int, want string) {
	t.Helper()
	if s := span.Clock(n); s != want {
		t.Errorf("Clock(%d): got %q, want %q", n, s, want)
	}
}

// holds asks of a text all that reads one.
func holds(t *testing.T, s string) {
	t.Helper()
	n, ok := intervalOf(s)
	intervalIs(t, s, n, ok)
	n, ok = dateOf(s)
	dateIs(t, s, n, ok)
	for _, now := range nows {
		n, err := atOf(s, now)
		atIsWith(t, s, now, n, err)
	}
}

// everyList hands over all texts of up to n of the pieces.
func everyList(pieces []string, n int, use func(s string)) {
	l := []string{""}
	for range n + 1 {
		var longer []string
		for _, s := range l {
			use(s)
			for _, piece := range pieces {
				longer = append(longer, s+piece)
			}
		}
		l = longer
	}
}

// spoilt hands over each text that has one byte more, one less or another one than s.
func spoilt(s string, use func(s string)) {
	for i := range len(s) + 1 {
		for b := range 256 {
			c := string([]byte{byte(b)})
			use(s[:i] + c + s[i:])
			if i < len(s) {
				use(s[:i] + c + s[i+1:])
			}
		}
		if i < len(s) {
			use(s[:i] + s[i+1:])
		}
	}
}

// dice are scattered numbers, the same each time.
type dice struct{ seed uint64 }

// upTo is a number from 0 to n - 1.
func (d *dice) upTo(n int) int {
	d.seed = d.seed*6364136223846793005 + 1442695040888963407
	return int((d.seed ^ d.seed>>29) >> 1 % uint64(n))
}

// over is a text in the memory of b.
func over(b []byte) string { return unsafe.String(unsafe.SliceData(b), len(b)) }

// meet tells whether two texts have memory in common.
func meet(a, b string) bool {
	if a == "" || b == "" {
		return false
	}
	x, y := uintptr(unsafe.Pointer(unsafe.StringData(a))), uintptr(unsafe.Pointer(unsafe.StringData(b)))
	return x < y+uintptr(len(b)) && y < x+uintptr(len(a))
}
