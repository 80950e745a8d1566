package whisper

import (
	"slices"

	"graticule/api"
	"graticule/fixed"
	"graticule/slot"
)

const slotBytes = 12

// rowOffsets are where in a slot the rows of slot.Writes are written.
var rowOffsets = [3]int{0, 4, 0}

// ring is an archive of a file.
type ring struct {
	api.Archive
	of     file
	offset int // of its first slot in the file
}

// write lays a point in its slot. It tells whether there is one that can hold its
// time: none can if the time lies in the step of time 0.
func (r ring) write(p api.Point) bool {
	p.At = slot.Align(p.At, r.Step)
	if p.At == 0 {
		return false
	}
	at := r.offset + slotBytes*slot.Place(r.Archive, p.At)
	for i, row := range slot.Writes(p) {
		r.of.disk.WriteAt(r.of.name, at+rowOffsets[i], row)
	}
	return true
}

// values are what the slots hold for n times, a step apart and the first of them
// aligned; n is at most the ring's Count.
func (r ring) values(start, n int) []api.Val {
	l := make([]api.Val, n)
	for i, p := range r.points(slot.Place(r.Archive, start), n) {
		// A slot whose At is 0 holds nothing, not even time 0.
		if p.At > 0 && p.At == start+i*r.Step {
			l[i] = fixed.Of(p.N)
		}
	}
	return l
}

// points are n slots from that place on, round the ring; n is at most its Count.
func (r ring) points(place, n int) []api.Point {
	l := make([]api.Point, 0, n)
	l = r.read(l, place, min(n, r.Count-place))
	return r.read(l, 0, n-len(l))
}

// read appends n slots that lie side by side.
func (r ring) read(l []api.Point, place, n int) []api.Point {
	b, _ := r.of.disk.Read(r.of.name, r.offset+slotBytes*place, slotBytes*n)
	for row := range slices.Chunk(b, slotBytes) {
		p, _ := slot.Decode(row)
		l = append(l, p)
	}
	return l
}
