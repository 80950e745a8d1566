package rex

// A set is the bytes at whose places it is true.
type set [256]bool

func (s *set) add(low, high byte) {
	for c := int(low); c <= int(high); c++ {
		s[c] = true
	}
}

func (s *set) join(other set) {
	for c := range other {
		s[c] = s[c] || other[c]
	}
}

func (s *set) invert() {
	for c := range s {
		s[c] = !s[c]
	}
}

// pairs is the least and the greatest byte of each run.
func (s *set) pairs() string {
	var l []byte
	for c := range s {
		if !s[c] {
			continue
		}
		if c == 0 || !s[c-1] {
			l = append(l, byte(c))
		}
		if c == len(s)-1 || !s[c+1] {
			l = append(l, byte(c))
		}
	}
	return string(l)
}

// class is the byte class with this letter; false if there is none.
func class(letter byte) (set, bool) {
	var s set
	switch letter {
	case 'd', 'D':
		s.add('0', '9')
	case 'w', 'W':
		s.add('0', '9')
		s.add('A', 'Z')
		s.add('a', 'z')
		s.add('_', '_')
	case 's', 'S':
		s.add('\t', '\r')
		s.add(' ', ' ')
	default:
		return s, false
	}
	if letter < 'a' {
		s.invert()
	}
	return s, true
}
