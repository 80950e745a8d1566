package tree

import (
	"graticule/lex"
)

// tokens are those that are left to be read.
type tokens []lex.Token

// next takes the first token off; where there is none, it has no kind.
func (l *tokens) next() lex.Token {
	if len(*l) == 0 {
		return lex.Token{}
	}
	t := (*l)[0]
	*l = (*l)[1:]
	return t
}

// takes takes the first token off, if it is of this kind.
func (l *tokens) takes(kind int) bool {
	ok := len(*l) > 0 && (*l)[0].Kind == kind
	if ok {
		l.next()
	}
	return ok
}
