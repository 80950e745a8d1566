package tree

import (
	"strings"

	"graticule/api"
	"graticule/dec"
	"graticule/lex"
)

// isWithin tells whether a node is valid and at most so deep. It never goes deeper than that, however deep the node is.
func isWithin(n api.Node, depth int) bool {
	if depth == 0 {
		return false
	}
	if n.Kind == api.KindCall {
		return n.N == 0 && lex.Ident(n.Text) && areWithin(n.Kids, depth-1)
	}
	return len(n.Kids) == 0 && isLeaf(n)
}

func areWithin(kids []api.Node, depth int) bool {
	for _, kid := range kids {
		if !isWithin(kid, depth) {
			return false
		}
	}
	return true
}

// isLeaf tells whether a node without Kids is valid and no call.
func isLeaf(n api.Node) bool {
	switch n.Kind {
	case api.KindPath:
		return n.N == 0 && isPath(n.Text)
	case api.KindNumber:
		return n.Text == "" && -api.MaxN <= n.N && n.N <= api.MaxN
	case api.KindString:
		return n.N == 0 && !(strings.Contains(n.Text, `"`) && strings.Contains(n.Text, "'"))
	case api.KindBool:
		return n.Text == "" && (n.N == 0 || n.N == 1)
	}
	return false
}

// isPath tells whether a word is a path, also where it is read back.
func isPath(word string) bool {
	if !lex.Path(word) || word == yes || word == no {
		return false
	}
	_, number := dec.Parse(word)
	return !number
}
