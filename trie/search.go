package trie

import (
	"slices"

	"graticule/api"
	"graticule/glob"
	"graticule/name"
)

// find is a branch that was found, and the parts that lead to it.
type find struct {
	*branch
	parts []string
}

// choice is a branch of patterns, and the last part that leads to it.
type choice struct {
	*branch
	pattern string
}

// read is all that comes out of a pattern, branching too: what begins with the same parts is matched but once as far as they go.
func read(pattern string) (*branch, api.Errno) {
	all, err := glob.Expand(pattern)
	if err != api.OK {
		return nil, err
	}
	root := &branch{}
	for _, s := range all {
		parts, err := glob.Parts(s)
		if err != api.OK {
			return nil, err
		}
		root.grow(parts).leaf = true
	}
	return root, api.OK
}

// search appends to l what is found from here on, in no order; parts are those that lead here, and patterns are the branches of patterns that have matched them. It ends early where too much is found already: nobody asks then what that is.
func (s *stem) search(l []find, parts []string, patterns []*branch) []find {
	wild := wildOf(patterns)
	for part, next := range s.likely(patterns, wild) {
		if len(l) > api.MaxSeries {
			return l
		}
		matched := matching(patterns, wild, part)
		if len(matched) == 0 {
			continue
		}
		way := append(parts, part)
		if slices.ContainsFunc(matched, func(p *branch) bool { return p.leaf }) {
			l = append(l, find{next, slices.Clone(way)})
		}
		l = next.search(l, way, matched)
	}
	return l
}

// wildOf is what goes on from patterns by parts that are not plain.
func wildOf(patterns []*branch) []choice {
	var l []choice
	for _, p := range patterns {
		for pattern, next := range p.branches {
			if !glob.Plain(pattern) {
				l = append(l, choice{next, pattern})
			}
		}
	}
	return l
}

// likely are the branches that may be matched: all of them, or those to which plain parts lead if there are no others.
func (s *stem) likely(patterns []*branch, wild []choice) map[string]*branch {
	if len(wild) > 0 {
		return s.branches
	}
	few := map[string]*branch{}
	for _, p := range patterns {
		for part := range p.branches {
			if next := s.branches[part]; next != nil {
				few[part] = next
			}
		}
	}
	return few
}

// matching are the branches of patterns to which a part of a name leads. A plain part matches itself alone, so that no other needs to be tried.
func matching(patterns []*branch, wild []choice, part string) []*branch {
	var l []*branch
	for _, p := range patterns {
		if next := p.branches[part]; next != nil {
			l = append(l, next)
		}
	}
	for _, c := range wild {
		if glob.Match(c.pattern, part) {
			l = append(l, c.branch)
		}
	}
	return l
}

// hitsOf are the hits of what was found, in order.
func hitsOf(l []find) []api.Hit {
	slices.SortFunc(l, func(a, b find) int { return slices.Compare(a.parts, b.parts) })
	var hits []api.Hit
	for _, f := range l {
		if len(f.branches) > 0 {
			hits = append(hits, api.Hit{Name: name.Join(f.parts...)})
		}
		if f.leaf {
			hits = append(hits, api.Hit{Name: name.Join(f.parts...), Leaf: true})
		}
	}
	return hits
}
