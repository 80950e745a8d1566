package trie

import (
	"maps"
	"slices"

	"graticule/name"
)

// stem is what the root and a branch have in common: branches, each by the part that leads to it.
type stem struct {
	branches map[string]*branch
}

// branch is where one more part leads. Something ends there, or goes on from there, or both.
type branch struct {
	stem
	leaf bool // whether something ends there
}

// grow is the branch to which these parts lead; there is at least one. What is missing on the way is made.
func (s *stem) grow(parts []string) *branch {
	next := s.branches[parts[0]]
	if next == nil {
		if s.branches == nil {
			s.branches = map[string]*branch{}
		}
		next = &branch{}
		s.branches[parts[0]] = next
	}
	if len(parts) == 1 {
		return next
	}
	return next.grow(parts[1:])
}

// reach is the branch to which these parts lead, or nil; there is at least one.
func (s *stem) reach(parts []string) *branch {
	next := s.branches[parts[0]]
	if next == nil || len(parts) == 1 {
		return next
	}
	return next.reach(parts[1:])
}

// cut takes away the leaf to which these parts lead, which must be there, and each branch on the way that is left with nothing.
func (s *stem) cut(parts []string) {
	next := s.branches[parts[0]]
	if len(parts) == 1 {
		next.leaf = false
	} else {
		next.cut(parts[1:])
	}
	if !next.leaf && len(next.branches) == 0 {
		delete(s.branches, parts[0])
	}
}

// names appends to l the names that go on from here, in order; parts are those that lead here.
func (s *stem) names(l, parts []string) []string {
	for _, part := range slices.Sorted(maps.Keys(s.branches)) {
		next, way := s.branches[part], append(parts, part)
		if next.leaf {
			l = append(l, name.Join(way...))
		}
		l = next.names(l, way)
	}
	return l
}
