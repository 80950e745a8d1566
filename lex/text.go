package lex

import (
	"strings"
)

// A text is what is left to be read.
type text struct {
	rest string
}

// skip takes all of these bytes off the beginning.
func (t *text) skip(signs string) { t.rest = strings.TrimLeft(t.rest, signs) }

// takes takes this text off the beginning, if it stands there.
func (t *text) takes(s string) bool {
	rest, ok := strings.CutPrefix(t.rest, s)
	t.rest = rest
	return ok
}

// take takes n bytes off. They are a copy, since the text is not the lexer's own.
func (t *text) take(n int) string {
	taken := strings.Clone(t.rest[:n])
	t.rest = t.rest[n:]
	return taken
}

// mayStand tells whether a word may have this byte where so many braces are open.
func mayStand(c byte, depth int) bool {
	return isOfIdent(c) || strings.IndexByte("-:#%@=.*?[]{}+", c) >= 0 || depth > 0 && c == ','
}

func isOfIdent(c byte) bool { return isLetter(c) || '0' <= c && c <= '9' || c == '_' }

func isLetter(c byte) bool { return 'A' <= c && c <= 'Z' || 'a' <= c && c <= 'z' }
