package glob

import (
	"strings"

	"graticule/api"
	"graticule/name"
)

const (
	star     = "*"
	special  = "*?["
	classEnd = "]"
)

// isSimple tells whether it is a simple pattern.
func isSimple(pattern string) bool {
	for pattern != "" {
		switch pattern[0] {
		case '*', '?':
			pattern = pattern[1:]
		case '[':
			class, rest, ended := strings.Cut(pattern[1:], classEnd)
			if !ended || !isClass(class) {
				return false
			}
			pattern = rest
		default:
			i := strings.IndexAny(pattern, special)
			if i < 0 {
				i = len(pattern)
			}
			if !mayStand(pattern[:i]) {
				return false
			}
			pattern = pattern[i:]
		}
	}
	return true
}

// mayStand tells whether a part of a name may hold each byte of s.
func mayStand(s string) bool {
	if strings.Contains(s, dot) {
		return false
	}
	// Asked piece by piece, since what is longer than MaxName is no name, whatever its bytes.
	for len(s) > api.MaxName {
		if !name.Is(s[:api.MaxName]) {
			return false
		}
		s = s[api.MaxName:]
	}
	return s == "" || name.Is(s)
}

// isClass tells whether class may stand between the brackets.
func isClass(class string) bool {
	if class == "" {
		return false
	}
	for class != "" {
		low, high, rest := cutRange(class)
		if high < low {
			return false
		}
		class = rest
	}
	return true
}

// cutRange is the range that class begins with, and what is left behind it. A byte that stands for itself is a range of one.
func cutRange(class string) (low, high byte, rest string) {
	if len(class) > 2 && class[1] == '-' {
		return class[0], class[2], class[3:]
	}
	return class[0], class[0], class[1:]
}

// lists tells whether c is listed in a class, or lies in one of its ranges.
func lists(class string, c byte) bool {
	for class != "" {
		low, high, rest := cutRange(class)
		if low <= c && c <= high {
			return true
		}
		class = rest
	}
	return false
}

// takes tells whether c is matched by the element that a simple pattern begins with, which is no star, and what is left behind it.
func takes(pattern string, c byte) (rest string, ok bool) {
	if pattern == "" {
		return "", false
	}
	switch pattern[0] {
	case '?':
		return pattern[1:], true
	case '[':
		class, rest, _ := strings.Cut(pattern[1:], classEnd)
		return rest, lists(class, c)
	}
	return pattern[1:], pattern[0] == c
}
