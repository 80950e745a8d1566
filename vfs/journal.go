package vfs

// The kinds of operations that may be pending.
const (
	created = iota + 1
	written
	removed
)

// operation is what was done to a file, and what is needed to undo it. It has
// the file itself, not its name, which another file may have by then.
type operation struct {
	kind int
	on   *file
	at   int    // where it was written
	old  []byte // what was there before
}

// journal is the pending operations, as they were executed.
type journal struct {
	operations []operation
}

func (j *journal) count() int { return len(j.operations) }

func (j *journal) note(o operation) { j.operations = append(j.operations, o) }

// pop takes out the latest operation; there must be one.
func (j *journal) pop() operation {
	last := j.count() - 1
	o := j.operations[last]
	j.operations = j.operations[:last]
	return o
}

// forget lets go of the memory too: nothing in it can be asked for any more.
func (j *journal) forget() { j.operations = nil }
