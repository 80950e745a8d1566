package rex

import (
	"graticule/api"
)

const (
	stroke      = `\`
	repetitions = "*+?"
)

// A parser reads a text as an expression.
type parser struct {
	text
	groups int // that have a number
	depth  int // of groups that are open
}

func (p *parser) expression() (code, api.Errno) {
	var branches []code
	for {
		b, err := p.branch()
		if err != api.OK {
			return nil, err
		}
		branches = append(branches, b)
		if !p.takes("|") {
			return choice(branches), api.OK
		}
	}
}

func (p *parser) branch() (code, api.Errno) {
	var c code
	for p.rest != "" && !p.begins("|") && !p.begins(")") {
		x, err := p.piece()
		if err != api.OK {
			return nil, err
		}
		c.emit(x...)
	}
	return c, api.OK
}

func (p *parser) piece() (code, api.Errno) {
	x, err := p.atom()
	if err != api.OK {
		return nil, err
	}
	if sign, ok := p.takeSign(repetitions); ok {
		x = repeated(x, sign, p.takes("?"))
	}
	return x, api.OK
}

func (p *parser) atom() (code, api.Errno) {
	switch {
	case p.takes("("):
		return p.group()
	case p.takes("^"):
		return code{{Op: Begin}}, api.OK
	case p.takes("$"):
		return code{{Op: End}}, api.OK
	}
	s, ok := p.set()
	if !ok {
		return nil, api.ErrSyntax
	}
	return code{{Op: Set, Pairs: s.pairs()}}, api.OK
}

// group is what stands behind a ( up to its ), and the group that they make.
func (p *parser) group() (code, api.Errno) {
	if p.depth == api.MaxDeep {
		return nil, api.ErrDeep
	}
	p.depth++
	number := 0
	if !p.takes("?:") {
		p.groups++
		number = p.groups
	}
	inner, err := p.expression()
	if err != api.OK {
		return nil, err
	}
	if !p.takes(")") {
		return nil, api.ErrSyntax
	}
	p.depth--
	if number == 0 {
		return inner, api.OK
	}
	return saved(number, inner), api.OK
}

// set is a set of bytes; false if none stands there.
func (p *parser) set() (set, bool) {
	var s set
	if p.takes(".") {
		s.add('\n', '\n')
		s.invert()
		return s, true
	}
	if p.takes("[") {
		return p.bracket()
	}
	if s, ok := p.takeClass(); ok {
		return s, true
	}
	if _, ok := p.takeSign(repetitions); ok {
		return s, false
	}
	c, ok := p.takeByte()
	s.add(c, c)
	return s, ok
}
