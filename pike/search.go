package pike

import (
	"slices"

	"graticule/rex"
)

// A search follows the paths of all runs at once, the runs that start earlier ahead of those that start later.
type search struct {
	program []rex.Inst
	text    string
	// done has, for each instruction, one more than the offset at which it was executed last. That holds across runs: what led an earlier run to no Match leads a later one to none.
	done      []int
	blank     []int // a row in which nothing is recorded
	now, next paths // at this offset, and at the next one
	turns     []turn
	found     []int // the row of the best path so far that has reached a Match, or nil
}

// A turn is what is due when a path has ended: another path goes on with head, or, if back, a number gets the offset again that it had before.
type turn struct {
	head           int
	back           bool
	number, offset int
}

func newSearch(p rex.Prog, text string) *search {
	width := 2*p.Groups + 2
	return &search{
		program: p.L,
		text:    text,
		done:    make([]int, len(p.L)),
		blank:   slices.Repeat([]int{unrecorded}, width),
		now:     paths{records: records{width: width}},
		next:    paths{records: records{width: width}},
	}
}

// goesOn tells whether a path may still come ahead of what was found.
func (s *search) goesOn() bool { return s.found == nil || len(s.now.heads) > 0 }

// step starts a run at this offset and takes all paths to the next one.
func (s *search) step(at int) {
	if s.found == nil {
		s.now.add(0, s.blank)
	}
	for i, head := range s.now.heads {
		row := s.now.row(i)
		if s.follow(head, row, at) {
			s.found = slices.Clone(row)
			break // the paths behind come later than this one
		}
	}
	s.now, s.next = s.next, s.now
	s.next.clear()
}

// follow goes on with a path, and with what it splits into, as far as that goes at this offset; row is what it has recorded. It tells whether a Match was reached; then row has what is recorded there.
func (s *search) follow(head int, row []int, at int) bool {
	s.turns = append(s.turns[:0], turn{head: head})
	for len(s.turns) > 0 {
		last := len(s.turns) - 1
		t := s.turns[last]
		s.turns = s.turns[:last]
		if t.back {
			row[t.number] = t.offset
		} else if s.run(t.head, row, at) {
			return true
		}
	}
	return false
}

// run executes instructions until the path fails, consumes a byte or reaches a Match; it tells whether it does the last.
func (s *search) run(head int, row []int, at int) bool {
	for s.enter(head, at) {
		x := s.program[head]
		head++
		switch x.Op {
		case rex.Set:
			if at < len(s.text) && rex.Has(x.Pairs, s.text[at]) {
				s.next.add(head, row)
			}
			return false
		case rex.Split:
			s.turns = append(s.turns, turn{head: x.Y})
			head = x.X
		case rex.Jump:
			head = x.X
		case rex.Save:
			s.save(x.X, row, at)
		case rex.Begin:
			if at != 0 {
				return false
			}
		case rex.End:
			if at != len(s.text) {
				return false
			}
		default:
			return x.Op == rex.Match
		}
	}
	return false
}

// enter tells whether there is such an instruction that was not executed at this offset yet. From then on it was.
func (s *search) enter(head, at int) bool {
	if head < 0 || head >= len(s.program) || s.done[head] == at+1 {
		return false
	}
	s.done[head] = at + 1
	return true
}

// save records the offset until the paths that come by here have ended. A number that the row does not have is ignored.
func (s *search) save(number int, row []int, at int) {
	if number < 0 || number >= len(row) {
		return
	}
	s.turns = append(s.turns, turn{back: true, number: number, offset: row[number]})
	row[number] = at
}
