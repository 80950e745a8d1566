package name_test

import (
	"regexp"
	"slices"
	"strings"
	"testing"
	"unsafe"

	"graticule/name"
)

const (
	longest = 200 // bytes of a name
	most    = 20  // parts of a name
	may     = "abcdefghijklmnopqrstuvwxyzABCDEFGHIJKLMNOPQRSTUVWXYZ0123456789_-:#%@="
)

// nameForm is a name but for its length; a byte that is no letter by itself is none of the class.
var nameForm = regexp.MustCompile(`\A[a-zA-Z0-9_:#%@=-]+(\.[a-zA-Z0-9_:#%@=-]+){0,19}\z`)

func isName(s string) bool { return len(s) <= longest && nameForm.MatchString(s) }

// partsOf goes through s byte by byte.
func partsOf(s string) []string {
	l := []string{""}
	for i := range len(s) {
		if s[i] == '.' {
			l = append(l, "")
		} else {
			l[len(l)-1] += s[i : i+1]
		}
	}
	return l
}

func joinOf(l []string) string {
	s := ""
	for _, part := range l {
		s += "." + part
	}
	return s[min(1, len(s)):]
}

func fileOf(s string) string {
	b := []byte(s)
	for i, c := range b {
		if c == '.' {
			b[i] = '/'
		}
	}
	return string(b) + ".wsp"
}

// nameOf tries the one text that could be a name of that file.
func nameOf(file string) (string, bool) {
	b := []byte(file[:max(0, len(file)-4)])
	for i, c := range b {
		if c == '/' {
			b[i] = '.'
		}
	}
	if s := string(b); isName(s) && fileOf(s) == file {
		return s, true
	}
	return "", false
}

func nodeOf(s string, i int) string {
	l := partsOf(s)
	if i < 0 {
		slices.Reverse(l)
		i = -1 - i
	}
	if i >= len(l) {
		return ""
	}
	return l[i]
}

// indices are those around all parts of s.
func indices(s string) []int {
	n := len(partsOf(s)) + 2
	l := []int{}
	for i := -n; i <= n; i++ {
		l = append(l, i)
	}
	return l
}

func isIs(t *testing.T, s string, want bool) {
	t.Helper()
	if got := name.Is(s); got != want {
		t.Errorf("Is(%q) is %t", s, got)
	}
}

func partsAre(t *testing.T, s string, want ...string) {
	t.Helper()
	if got := name.Parts(s); !slices.Equal(got, want) {
		t.Errorf("Parts(%q) is %q, not %q", s, got, want)
	}
}

func joinIs(t *testing.T, want string, l ...string) {
	t.Helper()
	if got := name.Join(l...); got != want {
		t.Errorf("Join(%q) is %q, not %q", l, got, want)
	}
}

func fileIs(t *testing.T, s, want string) {
	t.Helper()
	if got := name.File(s); got != want {
		t.Errorf("File(%q) is %q, not %q", s, got, want)
	}
}

// ofIs asks for a name, or for none.
func ofIs(t *testing.T, file, want string, ok bool) {
	t.Helper()
	if got, has := name.Of(file); got != want || has != ok {
		t.Errorf("Of(%q) is %q, %t, not %q, %t", file, got, has, want, ok)
	}
}

func nodeIs(t *testing.T, s string, i int, want string) {
	t.Helper()
	if got := name.Node(s, i); got != want {
		t.Errorf("Node(%q, %d) is %q, not %q", s, i, got, want)
	}
}

// holds asks everything of a text that can be asked, against the model.
func holds(t *testing.T, s string) {
	t.Helper()
	isIs(t, s, isName(s))
	parts := partsOf(s)
	partsAre(t, s, parts...)
	joinIs(t, s, name.Parts(s)...)
	joinIs(t, joinOf(parts), parts...)
	fileIs(t, s, fileOf(s))
	for _, file := range []string{s, s + ".wsp", fileOf(s), fileOf(fileOf(s))} {
		want, ok := nameOf(file)
		ofIs(t, file, want, ok)
	}
	for _, i := range indices(s) {
		nodeIs(t, s, i, nodeOf(s, i))
	}
}

// textsOf are all texts of at most n of these letters.
func textsOf(letters []string, n int) []string {
	all := []string{""}
	last := all
	for range n {
		var next []string
		for _, s := range last {
			for _, c := range letters {
				next = append(next, s+c)
			}
		}
		all = append(all, next...)
		last = next
	}
	return all
}

// dice are numbers that are the same in each run.
type dice struct{ seed uint64 }

func (d *dice) upTo(n int) int {
	d.seed = d.seed*6364136223846793005 + 1442695040888963407
	return int((d.seed ^ d.seed>>29) >> 1 % uint64(n))
}

// text is n of these letters.
func (d *dice) text(letters string, n int) string {
	b := make([]byte, n)
	for i := range b {
		b[i] = letters[d.upTo(len(letters))]
	}
	return string(b)
}

// dotted is a text of n bytes with about so many parts, some of them empty.
func (d *dice) dotted(n, parts int) string {
	b := []byte(d.text(may, n))
	for range min(n, parts-1) {
		b[d.upTo(n)] = '.'
	}
	return string(b)
}

// names are so many valid names.
func (d *dice) names(n int) []string {
	var l []string
	for len(l) < n {
		s := d.dotted(1+d.upTo(longest), 1+d.upTo(most))
		if isName(s) {
			l = append(l, s)
		}
	}
	return l
}

// row is n times a part with dots between.
func row(part string, n int) string { return strings.Repeat(part+".", n-1) + part }

// meet tells whether two texts have a byte of memory in common.
func meet(a, b string) bool {
	if a == "" || b == "" {
		return false
	}
	first, second := uintptr(unsafe.Pointer(unsafe.StringData(a))), uintptr(unsafe.Pointer(unsafe.StringData(b)))
	return first < second+uintptr(len(b)) && second < first+uintptr(len(a))
}

// over is a text in memory that is written over later.
func over(b []byte) string { return unsafe.String(unsafe.SliceData(b), len(b)) }
