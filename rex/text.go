package rex

import (
	"strings"
)

// A text is what is left to be read.
type text struct {
	rest string
}

func (t *text) begins(with string) bool { return strings.HasPrefix(t.rest, with) }

// takes takes this text off the beginning, if it stands there.
func (t *text) takes(s string) bool {
	rest, ok := strings.CutPrefix(t.rest, s)
	t.rest = rest
	return ok
}

// takeSign takes a byte off, if it is one of these.
func (t *text) takeSign(signs string) (byte, bool) {
	if t.rest == "" || strings.IndexByte(signs, t.rest[0]) < 0 {
		return 0, false
	}
	c := t.rest[0]
	t.rest = t.rest[1:]
	return c, true
}

// takeByte takes a byte off that stands for itself, with the stroke ahead of it if there is one; false if there is none.
func (t *text) takeByte() (byte, bool) {
	stroked := t.takes(stroke)
	if t.rest == "" || stroked && isLetterOrDigit(t.rest[0]) {
		return 0, false
	}
	c := t.rest[0]
	t.rest = t.rest[1:]
	return c, true
}

// takeClass takes a byte class off, if one stands there.
func (t *text) takeClass() (set, bool) {
	s, ok := classOf(t.rest)
	if ok {
		t.rest = t.rest[len(`\d`):]
	}
	return s, ok
}

// classOf is the byte class with which s begins; false if it begins with none.
func classOf(s string) (set, bool) {
	if len(s) < len(`\d`) || !strings.HasPrefix(s, stroke) {
		return set{}, false
	}
	return class(s[1])
}

func isLetterOrDigit(c byte) bool {
	return '0' <= c && c <= '9' || 'A' <= c && c <= 'Z' || 'a' <= c && c <= 'z'
}
