package tree

import (
	"graticule/api"
	"graticule/dec"
	"graticule/lex"
)

// A parser makes a node of the tokens that it embeds.
type parser struct {
	tokens
	calls int // that are open around the next token
}

// target is an expression with nothing behind it.
func (p *parser) target() (api.Node, api.Errno) {
	n, e := p.expression()
	if e == api.OK && len(p.tokens) > 0 {
		return api.Node{}, api.ErrSyntax
	}
	return n, e
}

func (p *parser) expression() (api.Node, api.Errno) {
	if p.calls == api.MaxDeep {
		return api.Node{}, api.ErrDeep
	}
	t := p.next()
	switch {
	case t.Kind == lex.String:
		return api.Node{Kind: api.KindString, Text: t.Text}, api.OK
	case t.Kind != lex.Word:
		return api.Node{}, api.ErrSyntax
	case lex.Ident(t.Text) && p.takes(lex.Open):
		return p.call(t.Text)
	}
	return plain(t.Text)
}

// call is the call of this function, behind its Open.
func (p *parser) call(function string) (api.Node, api.Errno) {
	n := api.Node{Kind: api.KindCall, Text: function}
	if p.takes(lex.Close) {
		return n, api.OK
	}
	p.calls++
	for {
		kid, e := p.expression()
		if e != api.OK {
			return api.Node{}, e
		}
		n.Kids = append(n.Kids, kid)
		switch p.next().Kind {
		case lex.Close:
			p.calls--
			return n, api.OK
		case lex.Comma:
		default:
			return api.Node{}, api.ErrSyntax
		}
	}
}

// plain is a word that calls nothing.
func plain(word string) (api.Node, api.Errno) {
	if v, ok := dec.Parse(word); ok {
		return api.Node{Kind: api.KindNumber, N: v.N}, api.OK
	}
	switch {
	case word == yes:
		return api.Node{Kind: api.KindBool, N: 1}, api.OK
	case word == no:
		return api.Node{Kind: api.KindBool}, api.OK
	case lex.Path(word):
		return api.Node{Kind: api.KindPath, Text: word}, api.OK
	}
	return api.Node{}, api.ErrSyntax
}
