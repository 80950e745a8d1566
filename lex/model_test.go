package lex_test

import (
	"fmt"
	"regexp"
	"slices"
	"strings"
	"testing"
	"time"
	"unsafe"

	"graticule/api"
	"graticule/lex"
)

const (
	most    = 4096 // bytes of a text
	letters = "abcdefghijklmnopqrstuvwxyzABCDEFGHIJKLMNOPQRSTUVWXYZ"
	digits  = "0123456789"
	may     = letters + digits + "_-:#%@=.*?[]{}+" // bytes of a word, but for the comma
)

var (
	pieceForm = regexp.MustCompile(`\A(?:[ \t]+|[()]|"[^"]*"|'[^']*'|[a-zA-Z0-9_:#%@=.*?\[\]{}+,-]+)`)
	groupForm = regexp.MustCompile(`\{[^{}]*\}`)
	wordForm  = regexp.MustCompile(`\A[a-zA-Z0-9_:#%@=.*?\[\]{}+,-]+\z`)
	identForm = regexp.MustCompile(`\A[a-zA-Z][a-zA-Z0-9_]*\z`)
)

func word(s string) lex.Token { return lex.Token{Kind: lex.Word, Text: s} }

func quoted(s string) lex.Token { return lex.Token{Kind: lex.String, Text: s} }

func open() lex.Token { return lex.Token{Kind: lex.Open} }

func closed() lex.Token { return lex.Token{Kind: lex.Close} }

func comma() lex.Token { return lex.Token{Kind: lex.Comma} }

// lexOf is what Lex is to answer: the text goes in pieces, in which words and commas are still one.
func lexOf(s string) ([]lex.Token, api.Errno) {
	if len(s) > most {
		return nil, api.ErrLimit
	}
	var all []lex.Token
	for s != "" {
		piece := pieceForm.FindString(s)
		s = s[len(piece):]
		switch {
		case piece == "":
			return nil, api.ErrSyntax
		case piece == "(":
			all = append(all, open())
		case piece == ")":
			all = append(all, closed())
		case strings.Trim(piece, " \t") == "":
		case piece[0] == '"' || piece[0] == '\'':
			all = append(all, quoted(piece[1:len(piece)-1]))
		default:
			if strings.ContainsAny(withoutGroups(piece), "{}") {
				return nil, api.ErrSyntax
			}
			all = append(all, wordsOf(piece)...)
		}
	}
	return all, api.OK
}

// withoutGroups is a text less all braces that have their match, and what is between.
func withoutGroups(s string) string {
	for {
		less := groupForm.ReplaceAllString(s, "")
		if less == s {
			return s
		}
		s = less
	}
}

// wordsOf are words and the commas between, where each brace has its match. A comma stands outside of braces if as many have been closed as opened.
func wordsOf(s string) []lex.Token {
	var all []lex.Token
	begin := 0
	for i := range len(s) + 1 {
		if i < len(s) && (s[i] != ',' || strings.Count(s[:i], "{") > strings.Count(s[:i], "}")) {
			continue
		}
		if begin < i {
			all = append(all, word(s[begin:i]))
		}
		if i < len(s) {
			all = append(all, comma())
		}
		begin = i + 1
	}
	return all
}

func pathOf(s string) bool {
	return len(s) <= most && wordForm.MatchString(s) && !strings.Contains(s, "+") && !strings.ContainsAny(withoutGroups(s), "{},")
}

func identOf(s string) bool { return identForm.MatchString(s) }

// short is a thing in a text that a message can hold.
func short(x any) string {
	s := fmt.Sprintf("%+q", x)
	if len(s) > 400 {
		return s[:200] + " .. " + s[len(s)-200:]
	}
	return s
}

// lexIs asks a text for these tokens.
func lexIs(t *testing.T, s string, want ...lex.Token) {
	t.Helper()
	lexIsWith(t, s, want, api.OK)
}

// lexFails asks a text for this error, and no tokens beside it.
func lexFails(t *testing.T, s string, want api.Errno) {
	t.Helper()
	lexIsWith(t, s, nil, want)
}

func lexIsWith(t *testing.T, s string, want []lex.Token, wantErr api.Errno) {
	t.Helper()
	if got, err := lex.Lex(s); !slices.Equal(got, want) || err != wantErr {
		t.Errorf("Lex(%s) is %v, %d, not %v, %d", short(s), short(got), err, short(want), wantErr)
	}
}

func pathIs(t *testing.T, s string, want bool) {
	t.Helper()
	if got := lex.Path(s); got != want {
		t.Errorf("Path(%s) is %t, not %t", short(s), got, want)
	}
}

func identIs(t *testing.T, s string, want bool) {
	t.Helper()
	if got := lex.Ident(s); got != want {
		t.Errorf("Ident(%s) is %t, not %t", short(s), got, want)
	}
}

// holds asks all of the functions against the model.
func holds(t *testing.T, s string) {
	t.Helper()
	want, err := lexOf(s)
	lexIsWith(t, s, want, err)
	pathIs(t, s, pathOf(s))
	identIs(t, s, identOf(s))
}

// textsOf are all texts of at most n of these letters.
func textsOf(letters string, n int) []string {
	all := []string{""}
	last := all
	for range n {
		var next []string
		for _, s := range last {
			for i := range len(letters) {
				next = append(next, s+letters[i:i+1])
			}
		}
		all = append(all, next...)
		last = next
	}
	return all
}

// dice are numbers that are the same in each run.
type dice struct{ seed uint64 }

func (d *dice) upTo(n int) int {
	d.seed = d.seed*6364136223846793005 + 1442695040888963407
	return int((d.seed ^ d.seed>>29) >> 1 % uint64(n))
}

func (d *dice) of(l ...string) string { return l[d.upTo(len(l))] }

// text is at most n of these.
func (d *dice) text(n int, l ...string) string {
	var b strings.Builder
	for range d.upTo(n + 1) {
		b.WriteString(d.of(l...))
	}
	return b.String()
}

// bytes is at most n bytes of all kinds but for those in less.
func (d *dice) bytes(n int, less string) string {
	var b []byte
	for range d.upTo(n + 1) {
		if c := byte(d.upTo(256)); strings.IndexByte(less, c) < 0 {
			b = append(b, c)
		}
	}
	return string(b)
}

// word is one whose braces match, so many within one another.
func (d *dice) word(depth int) string {
	s := ""
	for s == "" {
		for range d.upTo(4) {
			i := d.upTo(len(may))
			s += strings.Trim(may[i:i+1], "{}")
			if depth > 0 && d.upTo(3) == 0 {
				s += "{" + d.inner(depth-1) + "}"
			}
		}
	}
	return s
}

// inner is what may stand within braces.
func (d *dice) inner(depth int) string {
	s := ""
	for range d.upTo(3) {
		s += d.of("", ",", ",,") + d.word(depth)
	}
	return s + d.of("", "", ",")
}

// inGoodTime breaks off what would go on for ages; what is well made takes a small part of that time.
func inGoodTime(t *testing.T, ask func()) {
	t.Helper()
	done := make(chan struct{})
	go func() {
		defer close(done)
		ask()
	}()
	select {
	case <-done:
	case <-time.After(time.Minute):
		t.Fatal("that takes too long")
	}
}

// over is a text in memory that is written over later.
func over(b []byte) string { return unsafe.String(unsafe.SliceData(b), len(b)) }

// meet tells whether two texts have a byte of memory in common.
func meet(a, b string) bool {
	first, second := uintptr(unsafe.Pointer(unsafe.StringData(a))), uintptr(unsafe.Pointer(unsafe.StringData(b)))
	return a != "" && b != "" && first < second+uintptr(len(b)) && second < first+uintptr(len(a))
}
