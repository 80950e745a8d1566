package glob_test

import (
	"regexp"
	"slices"
	"strings"
	"testing"
	"time"
	"unsafe"

	"graticule/api"
	"graticule/glob"
)

const (
	longest  = 4096 // bytes of a pattern
	many     = 512  // results
	most     = 20   // parts
	longName = 200  // bytes of a name
	may      = "abcdefghijklmnopqrstuvwxyzABCDEFGHIJKLMNOPQRSTUVWXYZ0123456789_-:#%@="
)

// The forms read a text in which each byte has become the letter of its number (see wide).
var (
	simpleForm  = regexp.MustCompile(`\A(?:\*|\?|\[[^\]]+\]|[a-zA-Z0-9_:#%@=-])*\z`)
	elementForm = regexp.MustCompile(`(?s)\[[^\]]+\]|.`)
	rangeForm   = regexp.MustCompile(`(?s)(.)-(.)|(.)`)
	plainForm   = regexp.MustCompile(`\A[.a-zA-Z0-9_:#%@=-]*\z`)
	innerForm   = regexp.MustCompile(`\{[^{}]*\}`)
)

// place is what one element of a simple pattern stands for.
type place struct {
	star bool
	set  [256]bool
}

// wide makes a letter of each byte.
func wide(s string) string {
	l := make([]rune, len(s))
	for i := range len(s) {
		l[i] = rune(s[i])
	}
	return string(l)
}

// classOf is what a class with these letters matches; false if one of its ranges ends below its start.
func classOf(letters string) ([256]bool, bool) {
	var set [256]bool
	for _, x := range rangeForm.FindAllStringSubmatch(letters, -1) {
		low := []rune(x[1] + x[3])[0]
		high := []rune(x[2] + x[3])[0]
		if high < low {
			return set, false
		}
		for c := low; c <= high; c++ {
			set[c] = true
		}
	}
	return set, true
}

// placesOf are the elements of a simple pattern; false if it is none.
func placesOf(pattern string) ([]place, bool) {
	s := wide(pattern)
	if !simpleForm.MatchString(s) {
		return nil, false
	}
	var l []place
	for _, x := range elementForm.FindAllString(s, -1) {
		var p place
		switch {
		case x == "*":
			p.star = true
		case x == "?":
			for c := range p.set {
				p.set[c] = true
			}
		case len(x) > 1 && x[0] == '[':
			set, ok := classOf(x[1 : len(x)-1])
			if !ok {
				return nil, false
			}
			p.set = set
		default:
			p.set[x[0]] = true
		}
		l = append(l, p)
	}
	return l, true
}

// reachOf goes through the elements one by one, and keeps every place in part that they may have come to.
func reachOf(l []place, part string) bool {
	at := make([]bool, len(part)+1)
	at[0] = true
	for _, p := range l {
		next := make([]bool, len(part)+1)
		for i := range next {
			if p.star {
				next[i] = at[i] || i > 0 && next[i-1]
			} else {
				next[i] = i > 0 && at[i-1] && p.set[part[i-1]]
			}
		}
		at = next
	}
	return at[len(part)]
}

func matchOf(pattern, part string) bool {
	l, ok := placesOf(pattern)
	return ok && reachOf(l, part)
}

func simpleOf(pattern string) bool {
	_, ok := placesOf(pattern)
	return ok
}

// dotted goes through s byte by byte.
func dotted(s string) []string {
	l := []string{""}
	for i := range len(s) {
		if s[i] == '.' {
			l = append(l, "")
		} else {
			l[len(l)-1] += s[i : i+1]
		}
	}
	return l
}

func partsOf(pattern string) ([]string, api.Errno) {
	l := dotted(pattern)
	if len(l) > most || slices.ContainsFunc(l, func(s string) bool { return s == "" || !simpleOf(s) }) {
		return nil, api.ErrSyntax
	}
	return l, api.OK
}

// bracesOf takes the innermost groups away, until none is left.
func bracesOf(s string) bool {
	for {
		next := innerForm.ReplaceAllString(s, "")
		if next == s {
			return !strings.ContainsAny(s, "{},")
		}
		s = next
	}
}

// chosenOf puts each text of the first group in its place, and goes on with what comes of it; it stops when all has become too many.
func chosenOf(s string, all []string) []string {
	if len(all) > many {
		return all
	}
	i := strings.IndexByte(s, '{')
	if i < 0 {
		return append(all, s)
	}
	var texts []string
	depth, from, j := 0, i+1, i
	for ; len(texts) == 0 || depth > 0; j++ {
		switch s[j] {
		case '{':
			depth++
		case '}':
			depth--
		}
		if depth == 0 || depth == 1 && s[j] == ',' {
			texts = append(texts, s[from:j])
			from = j + 1
		}
	}
	for _, text := range texts {
		all = chosenOf(s[:i]+text+s[j:], all)
	}
	return all
}

func expandOf(pattern string) ([]string, api.Errno) {
	if len(pattern) > longest || !bracesOf(pattern) {
		return nil, api.ErrSyntax
	}
	all := chosenOf(pattern, nil)
	if len(all) > many {
		return nil, api.ErrLimit
	}
	for _, s := range all {
		if s == "" || slices.ContainsFunc(dotted(s), func(part string) bool { return !simpleOf(part) }) {
			return nil, api.ErrSyntax
		}
	}
	return all, api.OK
}

// short is a text that a message can hold.
func short(s string) string {
	if len(s) > 300 {
		return s[:150] + " .. " + s[len(s)-150:]
	}
	return s
}

func shorts(l []string) []string {
	all := []string{}
	for i, s := range l {
		if i < 5 || i > len(l)-5 {
			all = append(all, short(s))
		}
	}
	return all
}

func expandIs(t *testing.T, pattern string, want ...string) {
	t.Helper()
	got, err := glob.Expand(pattern)
	if err != api.OK || !slices.Equal(got, want) {
		t.Errorf("Expand(%q) is %q (%d), %d, not %q (%d)", short(pattern), shorts(got), len(got), err, shorts(want), len(want))
	}
}

func expandFails(t *testing.T, pattern string, want api.Errno) {
	t.Helper()
	got, err := glob.Expand(pattern)
	if err != want || len(got) != 0 {
		t.Errorf("Expand(%q) is %q (%d), %d, not the error %d", short(pattern), shorts(got), len(got), err, want)
	}
}

// expandHolds asks Expand against the model.
func expandHolds(t *testing.T, pattern string) {
	t.Helper()
	want, err := expandOf(pattern)
	if err != api.OK {
		expandFails(t, pattern, err)
		return
	}
	expandIs(t, pattern, want...)
}

func matchIs(t *testing.T, pattern, part string, want bool) {
	t.Helper()
	if got := glob.Match(pattern, part); got != want {
		t.Errorf("Match(%q, %q) is %t", short(pattern), short(part), got)
	}
}

func partsAre(t *testing.T, pattern string, want ...string) {
	t.Helper()
	if got, err := glob.Parts(pattern); err != api.OK || !slices.Equal(got, want) {
		t.Errorf("Parts(%q) is %q, %d, not %q", short(pattern), got, err, want)
	}
}

func partsFail(t *testing.T, pattern string) {
	t.Helper()
	if got, err := glob.Parts(pattern); err != api.ErrSyntax || len(got) != 0 {
		t.Errorf("Parts(%q) is %q, %d, not the error of syntax", short(pattern), got, err)
	}
}

// partsHold asks Parts against the model.
func partsHold(t *testing.T, pattern string) {
	t.Helper()
	want, err := partsOf(pattern)
	if err != api.OK {
		partsFail(t, pattern)
		return
	}
	partsAre(t, pattern, want...)
}

func plainIs(t *testing.T, pattern string, want bool) {
	t.Helper()
	if got := glob.Plain(pattern); got != want {
		t.Errorf("Plain(%q) is %t", short(pattern), got)
	}
}

// holds asks everything of a pattern that can be asked, against the model.
func holds(t *testing.T, pattern string) {
	t.Helper()
	expandHolds(t, pattern)
	partsHold(t, pattern)
	plainIs(t, pattern, plainForm.MatchString(wide(pattern)))
	for _, part := range []string{"", "a", "ab", pattern, "." + pattern} {
		matchIs(t, pattern, part, matchOf(pattern, part))
	}
}

// textsOf are all texts of at most n of these letters.
func textsOf(letters string, n int) []string {
	all := []string{""}
	last := all
	for range n {
		var next []string
		for _, s := range last {
			for i := range len(letters) {
				next = append(next, s+letters[i:i+1])
			}
		}
		all = append(all, next...)
		last = next
	}
	return all
}

// dice are numbers that are the same in each run.
type dice struct{ seed uint64 }

func (d *dice) upTo(n int) int {
	d.seed = d.seed*6364136223846793005 + 1442695040888963407
	return int((d.seed ^ d.seed>>29) >> 1 % uint64(n))
}

// text is n of these letters.
func (d *dice) text(letters string, n int) string {
	b := make([]byte, n)
	for i := range b {
		b[i] = letters[d.upTo(len(letters))]
	}
	return string(b)
}

// choices is a pattern with groups, some of them within others, and now and then with what is wrong.
func (d *dice) choices(depth int) string {
	var b strings.Builder
	for range d.upTo(4) {
		if depth == 0 || d.upTo(3) > 0 {
			b.WriteString(d.text("ab.*?", d.upTo(3)))
			continue
		}
		b.WriteString("{" + d.choices(depth-1))
		for range d.upTo(4) {
			b.WriteString("," + d.choices(depth-1))
		}
		b.WriteString("}")
	}
	if d.upTo(40) == 0 {
		b.WriteString(d.text("{},[]-", 1))
	}
	return b.String()
}

// elements is a simple pattern, or one that is nearly so.
func (d *dice) elements(n int) string {
	var b strings.Builder
	for range n {
		switch d.upTo(8) {
		case 0, 1:
			b.WriteString("*")
		case 2:
			b.WriteString("?")
		case 3:
			b.WriteString("[" + d.text("abcd--*[\xff", 1+d.upTo(5)) + "]")
		default:
			b.WriteString(d.text("abcd-", 1))
		}
	}
	return b.String()
}

// row is n times a part with dots between.
func row(part string, n int) string { return strings.Repeat(part+".", n-1) + part }

// bytesOf is a text of one byte.
func bytesOf(c int) string { return string([]byte{byte(c)}) }

// inGoodTime breaks off what would go on for ages; what is well made takes a thousandth of that time.
func inGoodTime(t *testing.T, ask func()) {
	t.Helper()
	done := make(chan struct{})
	go func() {
		defer close(done)
		ask()
	}()
	select {
	case <-done:
	case <-time.After(time.Minute):
		t.Fatal("that takes too long")
	}
}

// meet tells whether two texts have a byte of memory in common.
func meet(a, b string) bool {
	if a == "" || b == "" {
		return false
	}
	first, second := uintptr(unsafe.Pointer(unsafe.StringData(a))), uintptr(unsafe.Pointer(unsafe.StringData(b)))
	return first < second+uintptr(len(b)) && second < first+uintptr(len(a))
}

// over is a text in memory that is written over later.
func over(b []byte) string { return unsafe.String(unsafe.SliceData(b), len(b)) }
