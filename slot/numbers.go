package slot

import (
	"graticule/api"
)

// numbers is a row of bytes to which numbers are written.
type numbers struct {
	row []byte
}

// put appends the last so many bytes of n, the most significant one first.
func (b *numbers) put(n, size int) {
	for i := size - 1; i >= 0; i-- {
		b.row = append(b.row, byte(n>>(8*i)))
	}
}

// take hands the row out; the next one begins in memory of its own.
func (b *numbers) take() []byte {
	row := b.row
	b.row = nil
	return row
}

// number is what all of b tells; eight bytes may tell a negative one.
func number(b []byte) int {
	n := 0
	for _, x := range b {
		n = n<<8 | int(x)
	}
	return n
}

// point is a point that writes its own numbers.
type point struct {
	numbers
	at int // from 0 to MaxTime
	n  int
}

func pointOf(p api.Point) *point {
	return &point{at: min(max(p.At, 0), api.MaxTime), n: p.N}
}

func (p *point) putAt() { p.put(p.at, atBytes) }

func (p *point) putN() { p.put(p.n, nBytes) }
