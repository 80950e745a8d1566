package vfs_test

import (
	"fmt"
	"maps"
	"math/big"
	"slices"
	"strings"
	"testing"

	"graticule/api"
	"graticule/vfs"
)

// model is a file system in the words of the chapter: of every pending operation
// it has all the files that were there ahead of it, so that nothing is ever undone.
type model struct {
	room  int
	files map[string]string
	past  []moment
}

// moment is a pending operation, and the files ahead of it.
type moment struct {
	before map[string]string
	step   step
}

// step is a call on a file system: its function, and what it is given.
type step struct {
	call  string // create, write, remove, sync, crash
	name  string
	at, n int // of a write at alone, of a crash both
	p     []string
}

func (s step) String() string {
	return fmt.Sprintf("%s(%.10q, %d, %d, %.20q)", s.call, s.name, s.at, s.n, s.p)
}

func create(name string, p ...string) step { return step{call: "create", name: name, p: p} }

func write(name string, at int, p ...string) step {
	return step{call: "write", name: name, at: at, p: p}
}

func remove(name string) step { return step{call: "remove", name: name} }

func crash(n, m int) step { return step{call: "crash", at: n, n: m} }

func sync() step { return step{call: "sync"} }

// parts is p in bytes, with nil for every second one of no bytes.
func parts(p []string) [][]byte {
	var l [][]byte
	for i, s := range p {
		if s == "" && i%2 == 0 {
			l = append(l, nil)
		} else {
			l = append(l, []byte(s))
		}
	}
	return l
}

// on makes the call on f.
func (s step) on(f *vfs.FS) api.Errno {
	switch s.call {
	case "create":
		return f.Create(s.name, parts(s.p)...)
	case "write":
		return f.WriteAt(s.name, s.at, parts(s.p)...)
	case "remove":
		return f.Remove(s.name)
	case "sync":
		f.Sync()
	case "crash":
		f.Crash(s.at, s.n)
	default:
		panic(s.call)
	}
	return api.OK
}

// beyond tells whether a + b is greater than c, whatever an int can hold.
func beyond(a, b, c int) bool {
	sum := new(big.Int).Add(big.NewInt(int64(a)), big.NewInt(int64(b)))
	return sum.Cmp(big.NewInt(int64(c))) > 0
}

func (m *model) used() int {
	n := 0
	for _, data := range m.files {
		n += len(data)
	}
	return n
}

// refuses is the error of a step, in the order of P3.1.
func (m *model) refuses(s step) api.Errno {
	if s.call == "sync" || s.call == "crash" {
		return api.OK
	}
	data, there := m.files[s.name]
	all := len(strings.Join(s.p, ""))
	switch {
	case len(s.name) < 1 || len(s.name) > 255:
		return api.ErrArg
	case s.call == "create" && there:
		return api.ErrHas
	case s.call == "create" && beyond(m.used(), all, m.room):
		return api.ErrFull
	case s.call != "create" && !there:
		return api.ErrNone
	case s.call == "write" && (s.at < 0 || beyond(s.at, all, len(data))):
		return api.ErrArg
	}
	return api.OK
}

// over is data with s written over it from at.
func over(data string, at int, s string) string {
	return data[:at] + s + data[at+len(s):]
}

// onModel makes the call on m.
func (s step) onModel(m *model) api.Errno {
	if err := m.refuses(s); err != api.OK {
		return err
	}
	switch s.call {
	case "sync":
		m.past = nil
		return api.OK
	case "crash":
		m.files, m.past = m.crashed(s.at, s.n), nil
		return api.OK
	}
	m.past = append(m.past, moment{m.files, s})
	m.files = maps.Clone(m.files)
	all := strings.Join(s.p, "")
	switch s.call {
	case "create":
		m.files[s.name] = all
	case "write":
		m.files[s.name] = over(m.files[s.name], s.at, all)
	case "remove":
		delete(m.files, s.name)
	}
	return api.OK
}

// crashed is the files that a crash leaves, by P3.3.
func (m *model) crashed(n, torn int) map[string]string {
	n = max(n, 0)
	if n >= len(m.past) {
		return m.files
	}
	left := maps.Clone(m.past[n].before)
	if s := m.past[n].step; s.call == "write" {
		all := strings.Join(s.p, "")
		left[s.name] = over(left[s.name], s.at, all[:min(max(torn, 0), len(all))])
	}
	return left
}

func newModel(room int) *model { return &model{room: room, files: map[string]string{}} }

// makeFS is a file system on which the steps were made.
func makeFS(t *testing.T, room int, steps ...step) *vfs.FS {
	t.Helper()
	f, err := vfs.New(room)
	if err != api.OK || f == nil {
		t.Fatalf("New(%d): %v, %d", room, f, err)
	}
	for _, s := range steps {
		if err := s.on(f); err != api.OK {
			t.Fatalf("%v: error %d", s, err)
		}
	}
	return f
}

// differs tells in what f, asked by P3.2, isn't those files with so many operations pending.
func differs(f *vfs.FS, files map[string]string, pending int) string {
	if l, want := f.List(), slices.Sorted(maps.Keys(files)); !slices.Equal(l, want) {
		return fmt.Sprintf("List() is %.60q, want %.60q", l, want)
	}
	used := 0
	for name, want := range files {
		if n, err := f.Size(name); n != len(want) || err != api.OK {
			return fmt.Sprintf("Size(%.10q) is %d, %d, want %d", name, n, err, len(want))
		}
		if b, err := f.Read(name, 0, len(want)); string(b) != want || err != api.OK {
			return fmt.Sprintf("Read(%.10q) is %.60q, %d, want %.60q", name, b, err, want)
		}
		used += len(want)
	}
	if f.Used() != used {
		return fmt.Sprintf("Used() is %d, want %d", f.Used(), used)
	}
	if f.Pending() != pending {
		return fmt.Sprintf("Pending() is %d, want %d", f.Pending(), pending)
	}
	return ""
}

// holds fails unless f is those files with so many operations pending.
func holds(t *testing.T, f *vfs.FS, files map[string]string, pending int) {
	t.Helper()
	if d := differs(f, files, pending); d != "" {
		t.Error(d)
	}
}

// answers fails unless err is the one that is wanted.
func answers(t *testing.T, what string, err, want api.Errno) {
	t.Helper()
	if err != want {
		t.Errorf("%s: got error %d, want %d", what, err, want)
	}
}

// everyList hands over all lists of up to so many of the steps.
func everyList(steps []step, most int, use func([]step)) {
	var more func(l []step)
	more = func(l []step) {
		use(l)
		if len(l) == most {
			return
		}
		for _, s := range steps {
			more(append(slices.Clone(l), s))
		}
	}
	more(nil)
}

func TestEveryCrashOfFewOperations(t *testing.T) {
	const room = 6
	steps := []step{
		create("a", "abc"), create("a"), create("b", "d", "", "e"),
		write("a", 0, "xy"), write("a", 1, "z", "w"), write("a", 3, ""), write("b", 0, "uv"),
		remove("a"), remove("b"), sync(),
	}
	torn, kept := 0, 0
	for _, first := range [][]step{nil, {create("a", "123"), sync()}} {
		everyList(steps, 4, func(l []step) {
			m := newModel(room)
			for _, s := range append(slices.Clone(first), l...) {
				s.onModel(m)
			}
			for n := -1; n <= len(m.past)+1; n++ {
				for bytes := -1; bytes <= 3; bytes++ {
					f := makeFS(t, room, first...)
					for _, s := range l {
						s.on(f)
					}
					f.Crash(n, bytes)
					if d := differs(f, m.crashed(n, bytes), 0); d != "" {
						t.Fatalf("%v, %v, Crash(%d, %d): %s", first, l, n, bytes, d)
					}
					if i := max(n, 0); i < len(m.past) && m.past[i].step.call == "write" {
						torn++
					} else if i > 0 {
						kept++
					}
				}
			}
		})
	}
	// That the lists reach what they are made for.
	if torn < 10000 || kept < 10000 {
		t.Error("torn writes and other crashes that keep something:", torn, kept)
	}
}

// dice is a row of numbers that is the same each time.
type dice uint64

// upTo is a number from 0 to n - 1.
func (d *dice) upTo(n int) int {
	*d = *d*6364136223846793005 + 1442695040888963407
	return int((uint64(*d) >> 33) % uint64(n))
}

func (d *dice) text(most int) string {
	var b []byte
	for range d.upTo(most + 1) {
		b = append(b, byte(d.upTo(256)))
	}
	return string(b)
}

// step is any call, mostly one that succeeds.
func (d *dice) step() step {
	const mostInt = 1<<63 - 1
	names := []string{"a", "b", "a.b", "a-b", "\xff", "\x00", strings.Repeat("n", 255), strings.Repeat("n", 256), "", "a", "b"}
	ats := []int{-1, 0, 0, 1, 2, 3, 5, 8, 13, mostInt, -mostInt - 1, mostInt - 3}
	name := names[d.upTo(len(names))]
	var p []string
	for range d.upTo(4) {
		p = append(p, d.text(6))
	}
	switch k := d.upTo(40); {
	case k < 12:
		return create(name, p...)
	case k < 30:
		return write(name, ats[d.upTo(len(ats))], p...)
	case k < 37:
		return remove(name)
	case k < 38:
		return sync()
	}
	return crash(d.upTo(12)-2, d.upTo(12)-2)
}

func TestLongRunsOfOperations(t *testing.T) {
	reached := map[string]int{}
	for run := range 300 {
		d := dice(run)
		room := d.upTo(60)
		f, m := makeFS(t, room), newModel(room)
		for i := range 150 {
			s := d.step()
			want := s.onModel(m)
			if err := s.on(f); err != want {
				t.Fatalf("run %d, %d: %v: got error %d, want %d", run, i, s, err, want)
			}
			if d := differs(f, m.files, len(m.past)); d != "" {
				t.Fatalf("run %d, %d: %v: %s", run, i, s, d)
			}
			reached[fmt.Sprint(s.call, want)]++
		}
	}
	for _, what := range []string{
		fmt.Sprint("create", api.OK), fmt.Sprint("create", api.ErrArg), fmt.Sprint("create", api.ErrHas), fmt.Sprint("create", api.ErrFull),
		fmt.Sprint("write", api.OK), fmt.Sprint("write", api.ErrArg), fmt.Sprint("write", api.ErrNone),
		fmt.Sprint("remove", api.OK), fmt.Sprint("remove", api.ErrArg), fmt.Sprint("remove", api.ErrNone), fmt.Sprint("sync", api.OK), fmt.Sprint("crash", api.OK),
	} {
		if reached[what] < 100 {
			t.Errorf("%s was reached %d times", what, reached[what])
		}
	}
}
