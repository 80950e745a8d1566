package lex

import (
	"strings"
)

const blanks = " \t"

// A lexer takes tokens off the text that it embeds.
type lexer struct {
	text
	tokens []Token
}

// token takes one token off; false if none begins there, or if it has no end.
func (l *lexer) token() (Token, bool) {
	switch {
	case l.takes("("):
		return Token{Kind: Open}, true
	case l.takes(")"):
		return Token{Kind: Close}, true
	case l.takes(","):
		return Token{Kind: Comma}, true
	case l.takes(`"`):
		return l.quoted(`"`)
	case l.takes("'"):
		return l.quoted("'")
	}
	return l.word()
}

// quoted takes off a string behind its first quotation mark.
func (l *lexer) quoted(mark string) (Token, bool) {
	n := strings.Index(l.rest, mark)
	if n < 0 {
		return Token{}, false
	}
	t := Token{Kind: String, Text: l.take(n)}
	return t, l.takes(mark)
}

// word takes a word off; false of no byte, and of one whose braces don't match.
func (l *lexer) word() (Token, bool) {
	n, depth := 0, 0
	for n < len(l.rest) && mayStand(l.rest[n], depth) {
		switch l.rest[n] {
		case '{':
			depth++
		case '}':
			depth--
		}
		if depth < 0 {
			return Token{}, false
		}
		n++
	}
	return Token{Kind: Word, Text: l.take(n)}, n > 0 && depth == 0
}
