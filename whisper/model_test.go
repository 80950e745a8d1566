package whisper_test

import (
	"bytes"
	"cmp"
	"encoding/binary"
	"maps"
	"math/big"
	"math/rand/v2"
	"slices"
	"testing"

	"graticule/api"
	"graticule/vfs"
	"graticule/whisper"
)

const (
	maxTime = 4294967295
	maxN    = 4611686018427387904
	whole   = 1000000 // the share by which all must be known
)

// The kinds as numbers of their own.
const (
	avg  = 1
	sum  = 2
	last = 3
	most = 4
	mini = 5
)

// file is the name of the file that most tests have.
const file = "a.file"

var none api.Val

// num is a value that is not made by the packages that are tested.
func num(n int) api.Val { return api.Val{Ok: true, N: n} }

// pt is a point.
func pt(at, n int) api.Point { return api.Point{At: at, N: n} }

// header is one of so many steps and counts, one after the other.
func header(agg, xff int, numbers ...int) api.Header {
	h := api.Header{Agg: agg, XFF: xff}
	for i := 0; i < len(numbers); i += 2 {
		h.Archives = append(h.Archives, api.Archive{Step: numbers[i], Count: numbers[i+1]})
	}
	return h
}

// kinds are the five kinds.
func kinds() []int { return []int{avg, sum, last, most, mini} }

func spanOf(a api.Archive) int { return a.Step * a.Count }

func aligned(t, step int) int { return t / step * step }

// offsetOf is where archive i begins, or where the last one ends.
func offsetOf(h api.Header, i int) int {
	at := 16 + 12*len(h.Archives)
	for _, a := range h.Archives[:i] {
		at += 12 * a.Count
	}
	return at
}

// headOf is the bytes of a header.
func headOf(h api.Header) []byte {
	n := len(h.Archives)
	numbers := []int{h.Agg, spanOf(h.Archives[n-1]), h.XFF, n}
	for i, a := range h.Archives {
		numbers = append(numbers, offsetOf(h, i), a.Step, a.Count)
	}
	var b []byte
	for _, x := range numbers {
		b = binary.BigEndian.AppendUint32(b, uint32(x))
	}
	return b
}

// slotOf is the bytes of a slot.
func slotOf(p api.Point) []byte {
	b := binary.BigEndian.AppendUint32(nil, uint32(p.At))
	return binary.BigEndian.AppendUint64(b, uint64(p.N))
}

// model is a file in the words of the chapter.
type model struct {
	api.Header
	rings [][]api.Point
	laid  []laying // all that was written to slots, in its order
}

// laying is a write of a slot.
type laying struct {
	ring, place int
	p           api.Point
	own         bool // whether it is a point that was handed in
}

// write is a WriteAt.
type write struct {
	at  int
	row []byte
}

func newModel(h api.Header) *model {
	m := &model{Header: h}
	for _, a := range h.Archives {
		m.rings = append(m.rings, make([]api.Point, a.Count))
	}
	return m
}

func (m *model) clone() *model {
	c := &model{Header: m.Header, laid: slices.Clone(m.laid)}
	for _, r := range m.rings {
		c.rings = append(c.rings, slices.Clone(r))
	}
	return c
}

// bytes is the whole file.
func (m *model) bytes() []byte {
	b := headOf(m.Header)
	for _, r := range m.rings {
		for _, p := range r {
			b = append(b, slotOf(p)...)
		}
	}
	return b
}

// place is where in archive i a time belongs.
func (m *model) place(i, t int) int {
	return t / m.Archives[i].Step % m.Archives[i].Count
}

// value is that of archive i for a time.
func (m *model) value(i, t int) api.Val {
	at, p := aligned(t, m.Archives[i].Step), m.rings[i][m.place(i, t)]
	if at == 0 || p.At != at || p.N < -maxN || p.N > maxN {
		return none
	}
	return num(p.N)
}

func (m *model) covers(i, now, t int) bool {
	return now-t >= 0 && now-t < spanOf(m.Archives[i])
}

// lay writes the slot of archive i for a time.
func (m *model) lay(i, t, n int, own bool) {
	l := laying{ring: i, place: m.place(i, t), p: pt(aligned(t, m.Archives[i].Step), n), own: own}
	m.rings[i][l.place] = l.p
	m.laid = append(m.laid, l)
}

// update is P7.2 for one point after the other.
func (m *model) update(now int, l ...api.Point) int {
	stored := 0
	for _, p := range l {
		if m.store(now, p) {
			stored++
		}
	}
	return stored
}

// store is P7.2 for a point.
func (m *model) store(now int, p api.Point) bool {
	if p.At < 1 || p.N < -maxN || p.N > maxN {
		return false
	}
	for i, a := range m.Archives {
		if !m.covers(i, now, p.At) {
			continue
		}
		if aligned(p.At, a.Step) == 0 {
			return false
		}
		m.lay(i, p.At, p.N, true)
		m.carry(i, p.At)
		return true
	}
	return false
}

// carry is P7.2 for the archives behind archive i.
func (m *model) carry(i, t int) {
	for i++; i < len(m.Archives); i++ {
		fine, coarse := m.Archives[i-1].Step, m.Archives[i].Step
		start := aligned(t, coarse)
		var row []api.Val
		for at := start; at < start+coarse; at += fine {
			row = append(row, m.value(i-1, at))
		}
		v := put(m.Agg, m.XFF, row)
		if !v.Ok || start == 0 {
			return
		}
		m.lay(i, t, v.N, false)
	}
}

// put is chapter 6 in exact numbers.
func put(kind, xff int, row []api.Val) api.Val {
	known := slices.DeleteFunc(slices.Clone(row), func(v api.Val) bool { return !v.Ok })
	if len(known) == 0 || len(known)*whole < xff*len(row) {
		return none
	}
	byN := func(a, b api.Val) int { return cmp.Compare(a.N, b.N) }
	switch kind {
	case last:
		return known[len(known)-1]
	case most:
		return slices.MaxFunc(known, byN)
	case mini:
		return slices.MinFunc(known, byN)
	}
	x := new(big.Int)
	for _, v := range known {
		if x.Add(x, big.NewInt(int64(v.N))).CmpAbs(big.NewInt(maxN)) > 0 {
			return none
		}
	}
	if kind == avg {
		x = mean(x, len(known))
	}
	return num(int(x.Int64()))
}

// mean is x by n to the nearest whole, halves away from 0.
func mean(x *big.Int, n int) *big.Int {
	q := new(big.Int).Abs(x)
	q.Lsh(q, 1).Add(q, big.NewInt(int64(n))).Quo(q, big.NewInt(2*int64(n)))
	if x.Sign() < 0 {
		q.Neg(q)
	}
	return q
}

// fetch is P7.3 for a now that may be.
func (m *model) fetch(now, from, until int) (api.Series, api.Errno) {
	oldest := now - spanOf(m.Archives[len(m.Archives)-1])
	if from > until || from > now || until < 0 || until < oldest {
		return api.Series{}, api.ErrTime
	}
	from, until = max(from, 0, oldest), min(until, now)
	i := 0
	for spanOf(m.Archives[i]) < now-from {
		i++
	}
	step := m.Archives[i].Step
	s := api.Series{Name: file, Start: aligned(from, step) + step, Step: step}
	for t := s.Start; t < aligned(until, step)+step; t += step {
		s.Vals = append(s.Vals, m.value(i, t))
	}
	if len(s.Vals) == 0 {
		s.Vals = []api.Val{m.value(i, s.Start)}
	}
	return s, api.OK
}

// writes are the calls of WriteAt for what was laid behind the first so many.
func (m *model) writes(behind int) []write {
	var l []write
	for _, x := range m.laid[behind:] {
		at, b := offsetOf(m.Header, x.ring)+12*x.place, slotOf(x.p)
		l = append(l, write{at, make([]byte, 4)}, write{at + 4, b[4:]}, write{at, b[:4]})
	}
	return l
}

// newDisk is a file system of so much room.
func newDisk(t *testing.T, room int) *vfs.FS {
	t.Helper()
	f, err := vfs.New(room)
	if err != api.OK {
		t.Fatal("vfs.New:", err)
	}
	return f
}

// diskWith has one file of those bytes.
func diskWith(t *testing.T, b []byte) *vfs.FS {
	t.Helper()
	f := newDisk(t, 1<<22)
	answers(t, "vfs.Create", f.Create(file, b), api.OK)
	f.Sync()
	return f
}

// made is a file that Create made, and its model.
func made(t *testing.T, h api.Header) (*vfs.FS, *model) {
	t.Helper()
	f := newDisk(t, 1<<22)
	answers(t, "Create", whisper.Create(f, file, h), api.OK)
	return f, newModel(h)
}

// answers fails unless a call had that error.
func answers(t *testing.T, call string, got, want api.Errno) {
	t.Helper()
	if got != want {
		t.Errorf("%s: error %d, want %d", call, got, want)
	}
}

// contents is all files of f.
func contents(f *vfs.FS) map[string]string {
	all := make(map[string]string)
	for _, name := range f.List() {
		n, _ := f.Size(name)
		b, _ := f.Read(name, 0, n)
		all[name] = string(b)
	}
	return all
}

// isAsModel fails unless the file is what the model is.
func isAsModel(t *testing.T, f *vfs.FS, m *model) {
	t.Helper()
	want := m.bytes()
	got, err := f.Read(file, 0, len(want))
	if size, _ := f.Size(file); err != api.OK || size != len(want) {
		t.Fatalf("the file has %d bytes, error %d, want %d", size, err, len(want))
	}
	if bytes.Equal(got, want) {
		return
	}
	for i, a := range m.Archives {
		for j := range a.Count {
			at := offsetOf(m.Header, i) + 12*j
			if !bytes.Equal(got[at:at+12], want[at:at+12]) {
				t.Fatalf("%v: slot %d of archive %d: %x, want %x", m.Header, j, i, got[at:at+12], want[at:at+12])
			}
		}
	}
	t.Fatalf("the header has changed: %x", got[:offsetOf(m.Header, 0)])
}

// updates fails unless Update does what the model does.
func updates(t *testing.T, f *vfs.FS, m *model, now int, l ...api.Point) {
	t.Helper()
	want := m.update(now, l...)
	if n, err := whisper.Update(f, file, now, l...); n != want || err != api.OK {
		t.Fatalf("Update(now %d, %v) of %v: %d, error %d, want %d", now, l, m.Header, n, err, want)
	}
	if n := f.Pending(); n != 0 {
		t.Fatalf("%d pending behind Update(now %d, %v)", n, now, l)
	}
	isAsModel(t, f, m)
}

func sameSeries(a, b api.Series) bool {
	return a.Name == b.Name && a.Start == b.Start && a.Step == b.Step && a.Cons == b.Cons && slices.Equal(a.Vals, b.Vals)
}

func sameHeader(a, b api.Header) bool {
	return a.Agg == b.Agg && a.XFF == b.XFF && slices.Equal(a.Archives, b.Archives)
}

// fetches fails unless Fetch answers what the model does.
func fetches(t *testing.T, f *vfs.FS, m *model, now, from, until int) {
	t.Helper()
	want, wantErr := m.fetch(now, from, until)
	if got, err := whisper.Fetch(f, file, now, from, until); err != wantErr || !sameSeries(got, want) {
		t.Fatalf("Fetch(now %d, %d, %d) of %v: %v, error %d, want %v, error %d", now, from, until, m.Header, got, err, want, wantErr)
	}
}

// fetchIs fails unless Fetch answers those values.
func fetchIs(t *testing.T, f *vfs.FS, now, from, until, start, step int, vals ...api.Val) {
	t.Helper()
	want := api.Series{Name: file, Start: start, Step: step, Vals: vals}
	if got, err := whisper.Fetch(f, file, now, from, until); err != api.OK || !sameSeries(got, want) {
		t.Errorf("Fetch(now %d, %d, %d): %v, error %d, want %v", now, from, until, got, err, want)
	}
}

// ringIs fails unless Ring answers those points.
func ringIs(t *testing.T, f *vfs.FS, archive int, want ...api.Point) {
	t.Helper()
	if got, err := whisper.Ring(f, file, archive); err != api.OK || !slices.Equal(got, want) {
		t.Errorf("Ring(%d): %v, error %d, want %v", archive, got, err, want)
	}
}

// infoIs fails unless Info answers that header.
func infoIs(t *testing.T, f *vfs.FS, want api.Header) {
	t.Helper()
	if got, err := whisper.Info(f, file); err != api.OK || !sameHeader(got, want) {
		t.Errorf("Info: %v, error %d, want %v", got, err, want)
	}
}

// stays fails unless a call changes no file and syncs nothing, be there something pending or not.
func stays(t *testing.T, f *vfs.FS, what string, call func()) {
	t.Helper()
	files, pending := contents(f), f.Pending()
	call()
	if !maps.Equal(contents(f), files) || f.Pending() != pending {
		t.Errorf("%s: it changed the files, or what is pending: %d, before %d", what, f.Pending(), pending)
	}
}

// headers are valid ones of all sorts: of one archive up to eight, of rings that are a whole number of
// steps of the next one and of such that are not, of spans that touch the next one and that do not.
func headers() []api.Header {
	l := []api.Header{
		header(avg, 500000, 1, 60, 60, 5), header(sum, 0, 1, 1), header(last, 0, 7, 3), header(most, whole, 60, 5), header(mini, 1, 1, 12),
		header(sum, 0, 1, 6, 3, 4), header(avg, 333333, 1, 7, 3, 4), header(avg, 333334, 1, 3, 3, 2), header(last, 666667, 2, 5, 6, 4), header(most, 0, 10, 6, 60, 4),
		header(mini, 500000, 1, 7, 2, 5, 6, 7), header(sum, 250000, 1, 5, 4, 5, 8, 9, 24, 4), header(last, 0, 3, 5, 9, 4, 27, 3), header(avg, 0, 5, 2, 10, 3, 30, 11),
	}
	for i, k := range kinds() {
		chain, steep := header(k, 200000*i), header(k, 0)
		for j := range 8 {
			chain.Archives = append(chain.Archives, api.Archive{Step: 1 << j, Count: 3 + (i+j)%2})
			steep.Archives = append(steep.Archives, api.Archive{Step: 1 << (3 * j), Count: 9})
		}
		// Where the second count is less, the span is still greater: 2 * 3 is above 4.
		l = append(l, chain, steep)
	}
	return l
}

// dice are the same each time.
type dice struct{ *rand.Rand }

func newDice(seed uint64) dice { return dice{rand.New(rand.NewPCG(seed, 7))} }

// upTo is a number from 0 to n.
func (d dice) upTo(n int) int { return d.IntN(n + 1) }

// n is an N: mostly a small one, sometimes one at which something turns.
func (d dice) n() int {
	turns := []int{0, maxN, -maxN, maxN + 1, -maxN - 1, maxN - 1, -1 << 63, 1<<63 - 1, maxN / 2, 1, -1}
	if i := d.upTo(60); i < len(turns) {
		return turns[i]
	}
	return d.IntN(2000001) - 1000000
}

// near is a time about an archive of h, at that now; sometimes it is one that can't be stored.
func (d dice) near(h api.Header, now int) int {
	a := h.Archives[d.IntN(len(h.Archives))]
	switch d.upTo(12) {
	case 0:
		return now + 1 + d.upTo(2*a.Step)
	case 1:
		return []int{0, -1, -1 << 63, 1<<63 - 1, -now, maxTime + 1}[d.upTo(5)]
	case 2:
		return now - spanOf(a) + d.upTo(2) - 1
	case 3:
		return now
	case 4:
		return aligned(now, a.Step) + d.upTo(2) - 1
	}
	return now - d.upTo(spanOf(a)+1)
}

// points are up to n points about h, at that now.
func (d dice) points(h api.Header, now, n int) []api.Point {
	var l []api.Point
	for range d.upTo(n) {
		l = append(l, pt(d.near(h, now), d.n()))
	}
	return l
}

// litter fills slots of a model with points of all sorts: aligned or not, in their place or not, of this round or another.
func (d dice) litter(m *model, now int) {
	for i, a := range m.Archives {
		for j := range a.Count {
			t := min(max(0, now-d.upTo(3*spanOf(a))+d.upTo(a.Step)), maxTime)
			switch d.upTo(3) {
			case 0:
				m.rings[i][m.place(i, t)] = pt(t, d.n())
			case 1:
				m.rings[i][m.place(i, t)] = pt(aligned(t, a.Step), d.n())
			case 2:
				m.rings[i][j] = pt(aligned(t, a.Step), d.n())
			}
		}
	}
}
