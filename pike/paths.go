package pike

const unrecorded = -1

// records are rows of recorded offsets, one behind the other: by number, or unrecorded.
type records struct {
	width   int
	offsets []int
}

// row is the row of path i. What is written to it is written to the records.
func (r *records) row(i int) []int { return r.offsets[i*r.width : (i+1)*r.width] }

// paths is a list of paths in the order of their priority: of each, the instruction with which it goes on, and its row.
type paths struct {
	records
	heads []int
}

// add appends a path, with a row of its own that is a copy of this one.
func (p *paths) add(head int, row []int) {
	p.heads = append(p.heads, head)
	p.offsets = append(p.offsets, row...)
}

func (p *paths) clear() {
	p.heads = p.heads[:0]
	p.offsets = p.offsets[:0]
}
