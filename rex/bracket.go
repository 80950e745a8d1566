package rex

import (
	"strings"
)

// bracket is the set of a bracket expression, behind its [; false if it is none.
func (p *parser) bracket() (set, bool) {
	roof := p.takes("^")
	s, ok := p.items()
	if roof {
		s.invert()
	}
	return s, ok
}

// items is what is listed up to the ] that closes, which is not the first byte.
func (p *parser) items() (set, bool) {
	var s set
	afterClass := false
	for first := true; first || !p.takes("]"); first = false {
		c, ok := p.takeClass()
		if ok {
			s.join(c)
			afterClass = true
			continue
		}
		alone := isAlone(p.rest) || afterClass && p.begins("-")
		low, ok := p.takeByte()
		if !ok {
			return s, false
		}
		high := low
		if !alone && p.isRange() {
			p.takes("-")
			high, ok = p.takeByte()
		}
		if !ok || high < low {
			return s, false
		}
		s.add(low, high)
		afterClass = false
	}
	return s, true
}

// isRange tells whether the - of a range and its second byte follow.
func (p *parser) isRange() bool {
	return p.begins("-") && !isAlone(p.rest) && !isAlone(p.rest[1:])
}

// isAlone tells whether s begins with a - that is no part of a range because of what follows.
func isAlone(s string) bool {
	behind, ok := strings.CutPrefix(s, "-")
	_, isClass := classOf(behind)
	return ok && (isClass || strings.HasPrefix(behind, "]"))
}
