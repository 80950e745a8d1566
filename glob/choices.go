package glob

import (
	"strings"

	"graticule/api"
)

// A row is a text with its alternatives: pieces, one behind the other. Its count is how many texts come out of it, as limited tells it.
type row struct {
	pieces []piece
	count  int
}

// A piece is a group of alternatives, or bytes that stand for themselves if it has no rows.
type piece struct {
	bytes string
	rows  []row
	count int
}

// isBalanced tells whether each brace has its match, and each comma stands within braces.
func isBalanced(text string) bool {
	depth := 0
	for i := range len(text) {
		switch text[i] {
		case '{':
			depth++
		case '}':
			depth--
		case ',':
			if depth == 0 {
				return false
			}
		}
		if depth < 0 {
			return false
		}
	}
	return depth == 0
}

// readRow is the row up to the comma or brace that ends it, and what is left of a balanced text from there on.
func readRow(text string) (row, string) {
	r := row{count: 1}
	for {
		i := strings.IndexAny(text, "{,}")
		if i < 0 {
			i = len(text)
		}
		r.add(piece{bytes: text[:i], count: 1})
		text = text[i:]
		if !strings.HasPrefix(text, "{") {
			return r, text
		}
		var group piece
		group, text = readGroup(text)
		r.add(group)
	}
}

// readGroup is the group whose brace text begins with, and what is left behind it.
func readGroup(text string) (piece, string) {
	var group piece
	for text[0] != '}' {
		var r row
		r, text = readRow(text[1:])
		group.rows = append(group.rows, r)
		group.count = limited(group.count + r.count)
	}
	return group, text[1:]
}

func (r *row) add(p piece) {
	r.pieces = append(r.pieces, p)
	r.count = limited(r.count * p.count)
}

// limited is n, or one above MaxSeries for all that is more: nobody asks by how much, and no integer could tell.
func limited(n int) int { return min(n, api.MaxSeries+1) }

// write writes the text number i of those that come out of a row: the last piece varies fastest.
func (r row) write(b *strings.Builder, i int) {
	each := r.count
	for _, p := range r.pieces {
		each /= p.count
		p.write(b, i/each)
		i %= each
	}
}

// write writes the text number i of those that come out of a piece.
func (p piece) write(b *strings.Builder, i int) {
	b.WriteString(p.bytes)
	for _, r := range p.rows {
		if i < r.count {
			r.write(b, i)
			return
		}
		i -= r.count
	}
}
