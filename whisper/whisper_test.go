package whisper_test

import (
	"bytes"
	"encoding/binary"
	"math"
	"slices"
	"strings"
	"testing"
	"unsafe"

	"graticule/api"
	"graticule/vfs"
	"graticule/whisper"
)

// minute is one archive of 60 seconds, and one of five minutes.
func minute() api.Header { return header(sum, 0, 1, 60, 60, 5) }

// greatest is a header whose file is as great as may be.
func greatest() api.Header { return header(avg, 500000, 1, 80000, 80000, 7378) }

func validNames() []string {
	return []string{"a", "a.file", "a/b", "..", " ", "\x00", "\xff\xfe", "é", strings.Repeat("n", 255)}
}

func wrongNames() []string {
	return []string{"", strings.Repeat("n", 256), strings.Repeat("n", 257), strings.Repeat("n", 1<<16), strings.Repeat("\x00", 511)}
}

// wrongNows are no times at which a file can be used.
func wrongNows() []int {
	return []int{0, -1, -2, -1700000000, -maxTime, math.MinInt, math.MinInt + 1, maxTime + 1, maxTime + 2, 1 << 33, 1<<32 + 1700000000, math.MaxInt - 1, math.MaxInt}
}

// wrongHeaders are headers that may not be.
func wrongHeaders() []api.Header {
	nine := header(sum, 0)
	for j := range 9 {
		nine.Archives = append(nine.Archives, api.Archive{Step: 1 << j, Count: 4})
	}
	greater := greatest()
	greater.Archives[1].Count++
	return []api.Header{
		{}, header(sum, 0), header(0, 0, 1, 60), header(6, 0, 1, 60), header(-1, 0, 1, 60), header(sum, -1, 1, 60), header(sum, whole+1, 1, 60),
		header(sum, 0, 0, 60), header(sum, 0, 1, 0), header(sum, 0, -1, 60), header(sum, 0, 1, -60), header(sum, 0, 1<<24+1, 1), header(sum, 0, 1, 1<<24), header(sum, 0, math.MaxInt, math.MaxInt),
		header(sum, 0, 1, 60, 1, 70), header(sum, 0, 2, 60, 1, 700), header(sum, 0, 2, 60, 3, 60), header(sum, 0, 1, 60, 60, 1), header(sum, 0, 1, 59, 60, 5),
		header(sum, 0, 1<<24, 256), nine, greater,
	}
}

// P7.1: Create

func TestCreate(t *testing.T) {
	for _, h := range append(headers(), greatest()) {
		f, m := made(t, h)
		isAsModel(t, f, m)
		if f.Pending() != 0 || f.Used() != len(m.bytes()) || !slices.Equal(f.List(), []string{file}) {
			t.Errorf("Create of %v: %d pending, %d used, files %q", h, f.Pending(), f.Used(), f.List())
		}
		f.Crash(0, 0)
		isAsModel(t, f, m)
		infoIs(t, f, h)
	}
}

func TestCreateInBytes(t *testing.T) {
	f := newDisk(t, 1000)
	answers(t, "Create", whisper.Create(f, file, header(most, 250000, 1, 2, 2, 3)), api.OK)
	want := []byte("\x00\x00\x00\x04\x00\x00\x00\x06\x00\x03\xd0\x90\x00\x00\x00\x02" +
		"\x00\x00\x00\x28\x00\x00\x00\x01\x00\x00\x00\x02" + "\x00\x00\x00\x40\x00\x00\x00\x02\x00\x00\x00\x03" + strings.Repeat("\x00", 60))
	if got, err := f.Read(file, 0, 100); !bytes.Equal(got, want) || err != api.OK || f.Used() != 100 {
		t.Errorf("got %x, error %d, %d used, want %x", got, err, f.Used(), want)
	}
}

// All that was pending ahead of it is synced too.
func TestCreateSyncs(t *testing.T) {
	f := newDisk(t, 10000)
	answers(t, "vfs.Create", f.Create("other", []byte("abc")), api.OK)
	answers(t, "WriteAt", f.WriteAt("other", 1, []byte("x")), api.OK)
	answers(t, "Create", whisper.Create(f, file, minute()), api.OK)
	want := contents(f)
	f.Crash(0, 0)
	if got := contents(f); got["other"] != "axc" || got[file] != want[file] || len(got) != 2 {
		t.Errorf("behind a crash: %q", got)
	}
}

func TestCreateOfAllNames(t *testing.T) {
	f := newDisk(t, 1<<20)
	for i, name := range validNames() {
		h := header(kinds()[i%5], i, 1+i, 60)
		answers(t, "Create", whisper.Create(f, name, h), api.OK)
		if got, err := whisper.Info(f, name); err != api.OK || !sameHeader(got, h) {
			t.Errorf("Info(%.20q): %v, error %d", name, got, err)
		}
	}
	if n := len(f.List()); n != len(validNames()) {
		t.Errorf("%d files", n)
	}
}

func TestCreateWithJustEnoughRoom(t *testing.T) {
	for _, h := range append(headers(), greatest()) {
		size := len(newModel(h).bytes())
		f := newDisk(t, size-1)
		stays(t, f, "Create", func() { answers(t, "Create without room", whisper.Create(f, file, h), api.ErrFull) })
		f = newDisk(t, size)
		answers(t, "Create with just the room", whisper.Create(f, file, h), api.OK)
		stays(t, f, "Create", func() { answers(t, "one more", whisper.Create(f, "b", header(sum, 0, 1, 1)), api.ErrFull) })
		infoIs(t, f, h)
		f = newDisk(t, size+10)
		answers(t, "vfs.Create", f.Create("other", make([]byte, 11)), api.OK)
		stays(t, f, "Create", func() { answers(t, "Create beside another", whisper.Create(f, file, h), api.ErrFull) })
	}
}

// crowded is a file system without room for one more file, in which something is pending.
func crowded(t *testing.T) *vfs.FS {
	t.Helper()
	f := newDisk(t, 1000)
	answers(t, "Create", whisper.Create(f, file, minute()), api.OK)
	answers(t, "vfs.Create", f.Create("other", make([]byte, 180)), api.OK)
	answers(t, "WriteAt", f.WriteAt("other", 7, []byte("pending")), api.OK)
	return f
}

func TestCreateErrorsInOrder(t *testing.T) {
	f := crowded(t)
	for _, name := range append(validNames(), wrongNames()...) {
		for _, h := range append(wrongHeaders(), minute()) {
			answers(t, "Create without files", whisper.Create(nil, name, h), api.ErrArg)
		}
		for _, h := range wrongHeaders() {
			stays(t, f, "Create", func() { answers(t, "Create of no header", whisper.Create(f, name, h), api.ErrArg) })
		}
	}
	stays(t, f, "Create", func() {
		answers(t, "Create of the same once more", whisper.Create(f, file, minute()), api.ErrHas)
		answers(t, "Create of another with the same name", whisper.Create(f, file, header(last, 5, 2, 3)), api.ErrHas)
		answers(t, "Create of what is no round file", whisper.Create(f, "other", minute()), api.ErrHas)
		answers(t, "Create of no header where there is a file", whisper.Create(f, file, header(sum, 0)), api.ErrArg)
		answers(t, "Create without room where there is a file", whisper.Create(f, file, greatest()), api.ErrHas)
		answers(t, "Create without room", whisper.Create(f, "new", minute()), api.ErrFull)
	})
	for _, name := range wrongNames() {
		stays(t, f, "Create", func() { answers(t, "Create of no name", whisper.Create(f, name, minute()), api.ErrArg) })
		stays(t, f, "Create", func() { answers(t, "Create of no name without room", whisper.Create(f, name, greatest()), api.ErrArg) })
	}
}

// P7.1: Info

func TestInfo(t *testing.T) {
	d := newDice(1)
	for _, h := range append(headers(), greatest()) {
		f, m := made(t, h)
		stays(t, f, "Info", func() { infoIs(t, f, h) })
		// What the slots hold is not asked.
		d.litter(m, 5000)
		infoIs(t, diskWith(t, m.bytes()), h)
		b := m.bytes()
		for i := offsetOf(h, 0); i < len(b); i++ {
			b[i] = byte(d.upTo(255))
		}
		infoIs(t, diskWith(t, b), h)
	}
}

// noFiles are the bytes of no round file.
func noFiles() [][]byte {
	l := [][]byte{nil, {0}, make([]byte, 15), make([]byte, 16), make([]byte, 28), make([]byte, 820), make([]byte, 1<<20), bytes.Repeat([]byte{255}, 820), []byte("no round file at all, but some text")}
	for _, h := range headers() {
		b := newModel(h).bytes()
		head := offsetOf(h, 0)
		l = append(l, b[:len(b)-1], append(slices.Clone(b), 0), append(slices.Clone(b), b...), append([]byte{0}, b...), b[1:], b[:head], b[:head-1], b[:16], b[:15], b[head:])
		l = append(l, append(slices.Clone(b), make([]byte, 12)...), b[:len(b)-12])
	}
	return l
}

func TestInfoOfNoRoundFile(t *testing.T) {
	for _, b := range noFiles() {
		isNoRoundFile(t, b)
	}
}

// isNoRoundFile fails unless all calls refuse those bytes.
func isNoRoundFile(t *testing.T, b []byte) {
	t.Helper()
	f := diskWith(t, b)
	answers(t, "vfs.Create", f.Create("pending"), api.OK)
	stays(t, f, "a call on no round file", func() {
		h, err := whisper.Info(f, file)
		if err != api.ErrForm || !sameHeader(h, api.Header{}) {
			t.Errorf("Info of %d bytes %.40x: %v, error %d", len(b), b, h, err)
		}
		// It is ahead of the errors that other arguments would have.
		for _, now := range append(wrongNows(), 1000) {
			n, err := whisper.Update(f, file, now, pt(1000, 5))
			if err != api.ErrForm || n != 0 {
				t.Errorf("Update of %d bytes: %d, error %d", len(b), n, err)
			}
			s, err := whisper.Fetch(f, file, now, 990, 980)
			if err != api.ErrForm || !sameSeries(s, api.Series{}) {
				t.Errorf("Fetch of %d bytes: %v, error %d", len(b), s, err)
			}
		}
		for _, i := range []int{-1, 0, 8} {
			if l, err := whisper.Ring(f, file, i); err != api.ErrForm || len(l) != 0 {
				t.Errorf("Ring of %d bytes: %d points, error %d", len(b), len(l), err)
			}
		}
	})
}

// Each number of a header, put to another one, is another header or none. (With another Step, it may be either.)
func TestInfoOfOtherHeaders(t *testing.T) {
	for _, h := range headers() {
		for i := range offsetOf(h, 0) / 4 {
			if i > 4 && i%3 == 2 {
				continue
			}
			b := newModel(h).bytes()
			was := binary.BigEndian.Uint32(b[4*i:])
			for _, x := range []uint32{was + 1, was - 1, was ^ 1<<31, was << 1, 0, math.MaxUint32} {
				binary.BigEndian.PutUint32(b[4*i:], x)
				other := h
				switch {
				case x == was:
				case i == 0 && x >= 1 && x <= 5:
					other.Agg = int(x)
				case i == 2 && x <= whole:
					other.XFF = int(x)
				default:
					isNoRoundFile(t, b)
					continue
				}
				infoIs(t, diskWith(t, b), other)
			}
		}
	}
}

// refuse fails unless all calls but Create answer that error, and nothing else.
func refuse(t *testing.T, f *vfs.FS, name string, want api.Errno) {
	t.Helper()
	h, err := whisper.Info(f, name)
	answers(t, "Info", err, want)
	if !sameHeader(h, api.Header{}) {
		t.Errorf("Info: %v beside an error", h)
	}
	for _, now := range append(wrongNows(), 1, 1000, maxTime) {
		n, err := whisper.Update(f, name, now, pt(now, 5))
		answers(t, "Update", err, want)
		s, err := whisper.Fetch(f, name, now, now-5, now-6)
		answers(t, "Fetch", err, want)
		if n != 0 || !sameSeries(s, api.Series{}) {
			t.Errorf("Update, Fetch: %d, %v beside an error", n, s)
		}
	}
	for _, i := range []int{math.MinInt, -1, 0, 1, 8, math.MaxInt} {
		l, err := whisper.Ring(f, name, i)
		answers(t, "Ring", err, want)
		if len(l) != 0 {
			t.Errorf("Ring: %v beside an error", l)
		}
	}
}

func TestNoFile(t *testing.T) {
	f := crowded(t)
	for _, name := range append(validNames(), wrongNames()...) {
		refuse(t, nil, name, api.ErrArg)
	}
	for _, name := range wrongNames() {
		stays(t, f, "a call with no name", func() { refuse(t, f, name, api.ErrArg) })
	}
	for _, name := range []string{"b", "a", "a.fil", "a.filE", "a.file2", "other2"} {
		stays(t, f, "a call without a file", func() { refuse(t, f, name, api.ErrNone) })
	}
	stays(t, f, "a call on another file", func() { refuse(t, f, "other", api.ErrForm) })
}

// A file system that New did not make has no files and no room.
func TestFileSystemThatWasNotMade(t *testing.T) {
	f := &vfs.FS{}
	answers(t, "Create", whisper.Create(f, file, minute()), api.ErrFull)
	refuse(t, f, file, api.ErrNone)
}

// P7.2

func TestUpdateAtNoTime(t *testing.T) {
	f := crowded(t)
	for _, now := range wrongNows() {
		stays(t, f, "Update at no time", func() {
			for _, l := range [][]api.Point{nil, {pt(1, 5)}, {pt(now, 5), pt(now-1, 6)}} {
				n, err := whisper.Update(f, file, now, l...)
				answers(t, "Update", err, api.ErrArg)
				if n != 0 {
					t.Errorf("Update(now %d): %d beside an error", now, n)
				}
			}
		})
	}
}

// stores fails unless an Update of a new file stores just the points whose place in the row is told.
func stores(t *testing.T, h api.Header, now int, l []api.Point, want ...int) {
	t.Helper()
	for i, p := range l {
		f, m := made(t, h)
		n, err := whisper.Update(f, file, now, p)
		wanted := 0
		if slices.Contains(want, i) {
			wanted = 1
		}
		if n != wanted || err != api.OK {
			t.Errorf("Update(now %d, %v) of %v: %d, error %d, want %d", now, p, h, n, err, wanted)
		}
		if n == 0 {
			isAsModel(t, f, m)
		}
	}
	f, m := made(t, h)
	updates(t, f, m, now, l...)
	if n, err := whisper.Update(f, file, now, l...); n != len(want) || err != api.OK {
		t.Errorf("Update(now %d, %v) of %v: %d, error %d, want %d", now, l, h, n, err, len(want))
	}
}

func TestUpdateOfWhichPoints(t *testing.T) {
	one := header(sum, 0, 1, 60)
	stores(t, one, 1000, []api.Point{pt(0, 5), pt(-1, 5), pt(-1000, 5), pt(math.MinInt, 5), pt(1001, 5), pt(maxTime, 5), pt(maxTime+1, 5), pt(1<<32+1000, 5), pt(math.MaxInt, 5)})
	stores(t, one, 1000, []api.Point{pt(1000, 5), pt(999, 5), pt(941, 5), pt(940, 5), pt(939, 5), pt(1, 5), pt(0, 5)}, 0, 1, 2)
	stores(t, minute(), 1000, []api.Point{pt(941, 5), pt(940, 5), pt(701, 5), pt(700, 5), pt(699, 5), pt(1001, 5), pt(1000, 5)}, 0, 1, 2, 6)
	stores(t, one, 1, []api.Point{pt(1, 5), pt(0, 5), pt(-1, 5), pt(2, 5)}, 0)
	stores(t, one, maxTime, []api.Point{pt(maxTime, 5), pt(maxTime+1, 5), pt(maxTime-59, 5), pt(maxTime-60, 5)}, 0, 2)
	stores(t, header(sum, 0, 1, 1), 1000, []api.Point{pt(999, 5), pt(1000, 5), pt(1001, 5)}, 1)
	stores(t, one, 1000, []api.Point{pt(1000, maxN), pt(1000, -maxN), pt(1000, maxN+1), pt(1000, -maxN-1), pt(1000, math.MaxInt), pt(1000, math.MinInt), pt(1000, 0), pt(1000, maxN-1)}, 0, 1, 6, 7)
	stores(t, one, 1000, nil)
}

// A time in the first step from 0 on has no slot, in whatever archive it would come first.
func TestUpdateInTheStepOfTimeZero(t *testing.T) {
	stores(t, header(sum, 0, 60, 5), 100, []api.Point{pt(1, 5), pt(59, 5), pt(60, 5), pt(61, 5), pt(100, 5)}, 2, 3, 4)
	// The second archive is the first that covers those up to 100; it has none for those below 60.
	stores(t, header(sum, 0, 1, 60, 60, 5), 160, []api.Point{pt(1, 5), pt(59, 5), pt(60, 5), pt(100, 5), pt(101, 5), pt(160, 5)}, 2, 3, 4, 5)
	// In the first archive they have slots; what would follow from them has none.
	f, m := made(t, header(sum, 0, 1, 60, 60, 5))
	updates(t, f, m, 59, pt(1, 5), pt(59, 6), pt(30, 7))
	ringIs(t, f, 1, make([]api.Point, 5)...)
	fetchIs(t, f, 59, 57, 59, 58, 1, none, num(6))
	updates(t, f, m, 60, pt(60, 8))
	ringIs(t, f, 1, pt(0, 0), pt(60, 8), pt(0, 0), pt(0, 0), pt(0, 0))
}

// Archives behind one that has no slot for the time are not written, though they could be.
func TestUpdateEndsAtTheStepOfTimeZero(t *testing.T) {
	f, m := made(t, header(last, 0, 2, 4, 4, 4, 8, 4))
	updates(t, f, m, 7, pt(2, 1), pt(3, 2), pt(4, 3), pt(7, 4))
	ringIs(t, f, 0, pt(0, 0), pt(2, 2), pt(4, 3), pt(6, 4))
	ringIs(t, f, 1, pt(0, 0), pt(4, 4), pt(0, 0), pt(0, 0))
	ringIs(t, f, 2, make([]api.Point, 4)...)
	updates(t, f, m, 9, pt(8, 5))
	ringIs(t, f, 2, pt(0, 0), pt(8, 5), pt(0, 0), pt(0, 0))
}

func TestUpdateIsWrittenAligned(t *testing.T) {
	f, m := made(t, header(sum, 0, 60, 5))
	updates(t, f, m, 400, pt(359, 5), pt(360, 6), pt(299, 7))
	ringIs(t, f, 0, pt(300, 5), pt(360, 6), pt(0, 0), pt(0, 0), pt(240, 7))
	updates(t, f, m, 400, pt(301, 8), pt(300, 9))
	ringIs(t, f, 0, pt(300, 9), pt(360, 6), pt(0, 0), pt(0, 0), pt(240, 7))
}

func TestUpdateOfTheSameTimeTwice(t *testing.T) {
	f, m := made(t, minute())
	updates(t, f, m, 1000, pt(990, 1), pt(990, 2), pt(991, 3), pt(990, 4))
	fetchIs(t, f, 1000, 989, 991, 990, 1, num(4), num(3))
	fetchIs(t, f, 1000, 900, 1000, 960, 60, num(7))
	updates(t, f, m, 1000, pt(990, 4), pt(990, 4))
	fetchIs(t, f, 1000, 900, 1000, 960, 60, num(7))
}

// The points are stored as they come: one that was stored late is put together with the others all the same.
func TestUpdateInAnyOrder(t *testing.T) {
	points, d := []api.Point{pt(960, 1), pt(961, 20), pt(1000, 300), pt(959, 4000), pt(941, 50000)}, newDice(3)
	for range 200 {
		d.Shuffle(len(points), func(i, j int) { points[i], points[j] = points[j], points[i] })
		f, m := made(t, minute())
		updates(t, f, m, 1000, points...)
		ringIs(t, f, 1, pt(900, 54000), pt(960, 321), pt(0, 0), pt(0, 0), pt(0, 0))
	}
}

// putTogether fails unless the five kinds make those of the row, which is 20 to 22 in the first archive; a 0 is none.
func putTogether(t *testing.T, xff int, row [3]int, want [6]api.Val) {
	t.Helper()
	for _, kind := range kinds() {
		f, m := made(t, header(kind, xff, 1, 7, 3, 4))
		var l []api.Point
		for i, n := range row {
			if n != 0 {
				l = append(l, pt(21+i, n))
			}
		}
		updates(t, f, m, 25, l...)
		slot := pt(0, 0)
		if want[kind].Ok {
			slot = pt(21, want[kind].N)
		}
		if got, err := whisper.Ring(f, file, 1); err != api.OK || got[3] != slot {
			t.Errorf("%v by kind %d and xff %d: %v, want %v", row, kind, xff, got, slot)
		}
	}
}

func TestUpdatePutsTogether(t *testing.T) {
	nothing := [6]api.Val{}
	of := func(l ...int) [6]api.Val {
		return [6]api.Val{none, num(l[0]), num(l[1]), num(l[2]), num(l[3]), num(l[4])}
	}
	putTogether(t, whole, [3]int{3, -7, 6}, of(1, 2, 6, 6, -7))
	putTogether(t, 0, [3]int{3, 0, 6}, of(5, 9, 6, 6, 3))
	putTogether(t, 0, [3]int{-3, -8, 0}, of(-6, -11, -8, -3, -8))
	putTogether(t, 0, [3]int{1, 0, 2}, of(2, 3, 2, 2, 1))
	putTogether(t, 0, [3]int{0, 5, 0}, of(5, 5, 5, 5, 5))
	putTogether(t, 333333, [3]int{0, 0, 5}, of(5, 5, 5, 5, 5))
	putTogether(t, 333334, [3]int{0, 0, 5}, nothing)
	putTogether(t, 666666, [3]int{1, 0, 5}, of(3, 6, 5, 5, 1))
	putTogether(t, 666667, [3]int{1, 0, 5}, nothing)
	putTogether(t, whole-1, [3]int{1, 2, 0}, nothing)
	putTogether(t, whole, [3]int{1, 2, 0}, nothing)
	// A sum that is too much is none, and so is the mean of it; it may be too much on its way only.
	much := of(0, 0, 1, maxN, 1)
	much[avg], much[sum] = none, none
	putTogether(t, whole, [3]int{maxN, 1, 1}, much)
	much[last], much[mini] = num(-5), num(-5)
	putTogether(t, whole, [3]int{maxN, 1, -5}, much)
	putTogether(t, whole, [3]int{maxN, -1, 1}, of(maxN/3, maxN, 1, maxN, -1))
	putTogether(t, whole, [3]int{-maxN, maxN, maxN}, of(maxN/3, maxN, maxN, maxN, -maxN))
}

// Where there is nothing to be written, what was written before stays, and so do all archives behind.
func TestUpdateEndsWhereThereIsNothing(t *testing.T) {
	f, m := made(t, header(sum, 0, 1, 6, 3, 4, 6, 10))
	updates(t, f, m, 26, pt(24, 7), pt(21, 5))
	ringIs(t, f, 1, pt(24, 7), pt(0, 0), pt(0, 0), pt(21, 5))
	ringIs(t, f, 2, pt(0, 0), pt(0, 0), pt(0, 0), pt(18, 5), pt(24, 7), pt(0, 0), pt(0, 0), pt(0, 0), pt(0, 0), pt(0, 0))
	updates(t, f, m, 26, pt(25, maxN))
	ringIs(t, f, 1, pt(24, 7), pt(0, 0), pt(0, 0), pt(21, 5))
	updates(t, f, m, 26, pt(24, -7))
	ringIs(t, f, 1, pt(24, maxN-7), pt(0, 0), pt(0, 0), pt(21, 5))
	updates(t, f, m, 27, pt(27, 8))
	ringIs(t, f, 1, pt(24, maxN-7), pt(27, 8), pt(0, 0), pt(21, 5))
	// Of the step from 24 on, the third archive keeps what it had: both of the second's are too much.
	ringIs(t, f, 2, pt(0, 0), pt(0, 0), pt(0, 0), pt(18, 5), pt(24, maxN-7), pt(0, 0), pt(0, 0), pt(0, 0), pt(0, 0), pt(0, 0))

	// The share is asked in each archive anew: enough in the second is too little in the third.
	f, m = made(t, header(most, 400000, 1, 6, 2, 9, 6, 10))
	updates(t, f, m, 26, pt(24, 7))
	ringIs(t, f, 1, pt(0, 0), pt(0, 0), pt(0, 0), pt(24, 7), pt(0, 0), pt(0, 0), pt(0, 0), pt(0, 0), pt(0, 0))
	ringIs(t, f, 2, make([]api.Point, 10)...)
	updates(t, f, m, 26, pt(26, 3))
	ringIs(t, f, 2, pt(0, 0), pt(0, 0), pt(0, 0), pt(0, 0), pt(24, 7), pt(0, 0), pt(0, 0), pt(0, 0), pt(0, 0), pt(0, 0))
}

// Slots that hold a time of a round before count as none, whatever else they hold.
func TestUpdateOverARoundBefore(t *testing.T) {
	f, m := made(t, header(sum, 0, 1, 6, 3, 4))
	updates(t, f, m, 17, pt(12, 1), pt(13, 10), pt(14, 100), pt(15, 1000), pt(16, 10000), pt(17, 100000))
	ringIs(t, f, 1, pt(12, 111), pt(15, 111000), pt(0, 0), pt(0, 0))
	updates(t, f, m, 19, pt(19, 5))
	ringIs(t, f, 0, pt(12, 1), pt(19, 5), pt(14, 100), pt(15, 1000), pt(16, 10000), pt(17, 100000))
	ringIs(t, f, 1, pt(12, 111), pt(15, 111000), pt(18, 5), pt(0, 0))
	updates(t, f, m, 25, pt(25, 6))
	ringIs(t, f, 1, pt(24, 6), pt(15, 111000), pt(18, 5), pt(0, 0))
	fetchIs(t, f, 25, 19, 25, 20, 1, none, none, none, none, none, num(6))
	fetchIs(t, f, 25, 13, 25, 15, 3, num(111000), num(5), none, num(6))
}

// Slots of the archive ahead count as long as they hold their times, whether these are covered or not.
func TestUpdatePutsTogetherWhatIsNoLongerCovered(t *testing.T) {
	f, m := made(t, header(sum, 0, 1, 6, 3, 4))
	updates(t, f, m, 14, pt(12, 1), pt(13, 10))
	updates(t, f, m, 19, pt(14, 100))
	ringIs(t, f, 1, pt(12, 111), pt(0, 0), pt(0, 0), pt(0, 0))
	// From 20 on, time 14 is not covered by the first archive: the second one has it alone.
	updates(t, f, m, 20, pt(14, 1000))
	ringIs(t, f, 0, pt(12, 1), pt(13, 10), pt(14, 100), pt(0, 0), pt(0, 0), pt(0, 0))
	ringIs(t, f, 1, pt(12, 1000), pt(0, 0), pt(0, 0), pt(0, 0))
	// Times ahead of now count too, where now is less than it was.
	updates(t, f, m, 30, pt(30, 1), pt(29, 2))
	updates(t, f, m, 28, pt(28, 4), pt(27, 8))
	ringIs(t, f, 1, pt(12, 1000), pt(27, 14), pt(30, 1), pt(0, 0))
}

// A slot holds a time only if its At is just that one's multiple, and its value is none if its N is out of the range.
func TestUpdateAmongWrongSlots(t *testing.T) {
	m := newModel(header(sum, 0, 2, 6, 6, 4))
	m.rings[0] = []api.Point{pt(60, 1), pt(63, 10), pt(52, 100), pt(66, 1000), pt(68, maxN+1), pt(70, math.MinInt)}
	f := diskWith(t, m.bytes())
	updates(t, f, m, 70, pt(61, 2))
	ringIs(t, f, 1, pt(0, 0), pt(0, 0), pt(60, 2), pt(0, 0))
	updates(t, f, m, 70, pt(66, 4))
	ringIs(t, f, 1, pt(0, 0), pt(0, 0), pt(60, 2), pt(66, 4))
	updates(t, f, m, 70, pt(65, 8))
	ringIs(t, f, 1, pt(0, 0), pt(0, 0), pt(60, 10), pt(66, 4))
	fetchIs(t, f, 70, 58, 70, 60, 2, num(2), none, num(8), num(4), none, none)
}

// The steps that are put together may go round the end of a ring.
func TestUpdateRoundTheEndOfARing(t *testing.T) {
	f, m := made(t, header(sum, whole, 1, 7, 3, 4))
	updates(t, f, m, 23, pt(20, 1), pt(21, 10), pt(22, 100), pt(23, 1000))
	ringIs(t, f, 0, pt(21, 10), pt(22, 100), pt(23, 1000), pt(0, 0), pt(0, 0), pt(0, 0), pt(20, 1))
	ringIs(t, f, 1, pt(0, 0), pt(0, 0), pt(0, 0), pt(21, 1110))
	updates(t, f, m, 29, pt(27, 1), pt(28, 10), pt(29, 100))
	ringIs(t, f, 0, pt(28, 10), pt(29, 100), pt(23, 1000), pt(0, 0), pt(0, 0), pt(0, 0), pt(27, 1))
	ringIs(t, f, 1, pt(0, 0), pt(27, 111), pt(0, 0), pt(21, 1110))
}

// A point that only an archive behind covers is carried on from there; those ahead stay.
func TestUpdateOfAnOldPoint(t *testing.T) {
	f, m := made(t, header(sum, 0, 1, 6, 3, 4, 6, 10))
	updates(t, f, m, 30, pt(24, 5))
	ringIs(t, f, 0, make([]api.Point, 6)...)
	ringIs(t, f, 1, pt(24, 5), pt(0, 0), pt(0, 0), pt(0, 0))
	ringIs(t, f, 2, pt(0, 0), pt(0, 0), pt(0, 0), pt(0, 0), pt(24, 5), pt(0, 0), pt(0, 0), pt(0, 0), pt(0, 0), pt(0, 0))
	updates(t, f, m, 40, pt(27, 9))
	ringIs(t, f, 1, pt(24, 5), pt(0, 0), pt(0, 0), pt(0, 0))
	ringIs(t, f, 2, pt(0, 0), pt(0, 0), pt(0, 0), pt(0, 0), pt(24, 9), pt(0, 0), pt(0, 0), pt(0, 0), pt(0, 0), pt(0, 0))
}

// It syncs whether or not a point was stored, and what was pending on other files too.
func TestUpdateSyncs(t *testing.T) {
	for _, l := range [][]api.Point{nil, {}, {pt(0, 5)}, {pt(1001, 5), pt(1000, maxN+1)}, {pt(1000, 5)}, {pt(1000, 5), pt(900, 6), pt(5, 7)}} {
		f, m := made(t, minute())
		answers(t, "vfs.Create", f.Create("other", []byte("abc")), api.OK)
		updates(t, f, m, 1000, l...)
		f.Crash(0, 0)
		isAsModel(t, f, m)
		if contents(f)["other"] != "abc" {
			t.Errorf("Update of %v: the other file is lost", l)
		}
	}
}

// An Update that is refused syncs nothing.
func TestUpdateThatIsRefusedDoesNotSync(t *testing.T) {
	f := crowded(t)
	stays(t, f, "Update", func() {
		whisper.Update(f, file, 0, pt(1, 5))
		whisper.Update(f, "other", 1000, pt(1000, 5))
		whisper.Update(f, "none", 1000, pt(1000, 5))
		whisper.Update(f, "", 1000, pt(1000, 5))
	})
	f.Crash(0, 0)
	if _, err := f.Size("other"); err != api.ErrNone {
		t.Error("what was pending is synced")
	}
}

// At the greatest time, all steps lie in the range of times, though their ends don't.
func TestUpdateAtTheGreatestTime(t *testing.T) {
	f, m := made(t, header(sum, 0, 1, 60, 60, 5))
	updates(t, f, m, maxTime, pt(maxTime, 1), pt(maxTime-1, 2), pt(maxTime-15, 4), pt(maxTime-16, 8))
	fetchIs(t, f, maxTime, maxTime-2, maxTime, maxTime-1, 1, num(2), num(1))
	fetchIs(t, f, maxTime, maxTime-100, maxTime, 4294967220, 60, num(8), num(7))
	fetchIs(t, f, maxTime, maxTime, maxTime, maxTime+1, 1, none)
}

// Many calls on one file hold against the model, byte by byte.
func TestScriptsOfUpdates(t *testing.T) {
	for seed, h := range headers() {
		for _, now := range []int{1, 40, 1000, 1700000000, maxTime - 200} {
			d := newDice(uint64(seed))
			f, m := made(t, h)
			if d.upTo(1) == 0 {
				d.litter(m, now)
				f = diskWith(t, m.bytes())
			}
			for range 60 {
				updates(t, f, m, now, d.points(h, now, 6)...)
				if d.upTo(3) == 0 {
					readsAsModel(t, d, f, m, now)
				}
				now = d.later(h, now)
			}
		}
	}
}

// later is a now mostly a little above the one before, and seldom below it.
func (d dice) later(h api.Header, now int) int {
	a := h.Archives[d.IntN(len(h.Archives))]
	switch d.upTo(12) {
	case 0:
		now += spanOf(a)
	case 1:
		now -= d.upTo(2 * a.Step)
	case 2:
	default:
		now += d.upTo(a.Step)
	}
	return min(max(now, 1), maxTime)
}

// readsAsModel fails unless Fetch, Ring and Info answer what the model does, and change nothing.
func readsAsModel(t *testing.T, d dice, f *vfs.FS, m *model, now int) {
	t.Helper()
	for range 5 {
		from, until := d.near(m.Header, now), d.near(m.Header, now)
		fetches(t, f, m, now, from, until)
		fetches(t, f, m, now, until, from)
		fetches(t, f, m, now, from, now)
	}
	for i, want := range m.rings {
		ringIs(t, f, i, want...)
	}
	infoIs(t, f, m.Header)
	isAsModel(t, f, m)
}

// Several files in one file system don't touch one another.
func TestScriptsOverSeveralFiles(t *testing.T) {
	d := newDice(11)
	f := newDisk(t, 1<<22)
	var models []*model
	name := func(i int) string { return "file " + string(rune('a'+i)) }
	for i, h := range headers() {
		answers(t, "Create", whisper.Create(f, name(i), h), api.OK)
		models = append(models, newModel(h))
	}
	now := 5000
	for range 600 {
		i := d.IntN(len(models))
		m := models[i]
		l := d.points(m.Header, now, 5)
		want := m.update(now, l...)
		if n, err := whisper.Update(f, name(i), now, l...); n != want || err != api.OK {
			t.Fatalf("Update(%q, now %d, %v): %d, error %d, want %d", name(i), now, l, n, err, want)
		}
		now = d.later(m.Header, now)
	}
	for i, m := range models {
		if got := contents(f)[name(i)]; got != string(m.bytes()) {
			t.Errorf("%q: %x, want %x", name(i), got, m.bytes())
		}
	}
}

// P7.3

// The example of the chapter.
func TestExample(t *testing.T) {
	f := newDisk(t, 820)
	answers(t, "Create", whisper.Create(f, file, header(sum, 500000, 1, 60, 60, 5)), api.OK)
	if n, err := whisper.Update(f, file, 100, pt(99, 5)); n != 1 || err != api.OK {
		t.Errorf("Update: %d, error %d", n, err)
	}
	fetchIs(t, f, 100, 98, 99, 99, 1, num(5))
}

func TestFetchErrors(t *testing.T) {
	f := crowded(t)
	refused := func(now, from, until int, want api.Errno) {
		t.Helper()
		s, err := whisper.Fetch(f, file, now, from, until)
		if err != want || !sameSeries(s, api.Series{}) {
			t.Errorf("Fetch(now %d, %d, %d): %v, error %d, want %d", now, from, until, s, err, want)
		}
	}
	stays(t, f, "Fetch", func() {
		for _, now := range wrongNows() {
			refused(now, 5, 10, api.ErrArg)
			refused(now, 10, 5, api.ErrArg)
			refused(now, now, now, api.ErrArg)
			refused(now, now+1, now+1, api.ErrArg)
			refused(now, math.MinInt, -1, api.ErrArg)
		}
		for _, x := range [][3]int{
			{1000, 951, 950}, {1000, 1000, 999}, {1000, math.MaxInt, math.MinInt}, {1000, 5, 4}, {1000, 0, -1},
			{1000, 1001, 1001}, {1000, 1001, 2000}, {1000, math.MaxInt, math.MaxInt}, {1, 2, 2}, {maxTime, maxTime + 1, maxTime + 1},
			{1000, -5, -1}, {1000, math.MinInt, math.MinInt}, {1000, math.MinInt, -1}, {10, -290, -1}, {10, -1, -1}, {1, -5, -3},
			{1000, 699, 699}, {1000, 0, 699}, {1000, math.MinInt, 0}, {1000, -5, 698}, {maxTime, 0, maxTime - 301}, {301, 0, 0},
		} {
			refused(x[0], x[1], x[2], api.ErrTime)
		}
	})
	for _, x := range [][3]int{{1000, 950, 950}, {1000, 1000, 1000}, {1000, 1000, math.MaxInt}, {1000, math.MinInt, math.MaxInt}, {1000, 699, 700}, {1000, math.MinInt, 700}, {300, -1, 0}, {300, 0, 0}, {1, 0, 0}, {1, 1, 1}, {maxTime, 0, maxTime - 300}} {
		if _, err := whisper.Fetch(f, file, x[0], x[1], x[2]); err != api.OK {
			t.Errorf("Fetch%v: error %d", x, err)
		}
	}
}

func TestFetchTimes(t *testing.T) {
	f, m := made(t, header(last, 0, 10, 6, 60, 5))
	updates(t, f, m, 1000, pt(700, 1), pt(719, 2), pt(840, 3), pt(960, 4), pt(970, 5), pt(985, 6), pt(1000, 7))
	for _, x := range []struct {
		now, from, until, start, step int
		vals                          []api.Val
	}{
		// On a step, and between two: the first time lies behind from, the last one is that of until.
		{1000, 960, 1000, 970, 10, []api.Val{num(5), num(6), none, num(7)}},
		{1000, 959, 1000, 960, 10, []api.Val{num(4), num(5), num(6), none, num(7)}},
		{1000, 961, 999, 970, 10, []api.Val{num(5), num(6), none}},
		{1000, 969, 980, 970, 10, []api.Val{num(5), num(6)}},
		{1000, 970, 980, 980, 10, []api.Val{num(6)}},
		{1000, 970, 989, 980, 10, []api.Val{num(6)}},
		{1000, 970, 990, 980, 10, []api.Val{num(6), none}},
		// From equal to until, and both in one step.
		{1000, 970, 970, 980, 10, []api.Val{num(6)}},
		{1000, 975, 975, 980, 10, []api.Val{num(6)}},
		{1000, 970, 979, 980, 10, []api.Val{num(6)}},
		{1000, 1000, 1000, 1010, 10, []api.Val{none}},
		// Until behind now.
		{1000, 980, 5000, 990, 10, []api.Val{none, num(7)}},
		{1000, 1000, math.MaxInt, 1010, 10, []api.Val{none}},
		{1005, 980, 1010, 990, 10, []api.Val{none, num(7)}},
		// The first archive reaches back to now - 60, and not a second more.
		{1000, 940, 1000, 950, 10, []api.Val{none, num(4), num(5), num(6), none, num(7)}},
		{1000, 939, 1000, 960, 60, []api.Val{num(7)}},
		{1000, 899, 1000, 900, 60, []api.Val{none, num(7)}},
		{1005, 945, 1005, 950, 10, []api.Val{none, num(4), num(5), num(6), none, num(7)}},
		// From before all that is kept.
		{1000, 700, 1000, 720, 60, []api.Val{none, none, num(3), none, num(7)}},
		{1000, 699, 1000, 720, 60, []api.Val{none, none, num(3), none, num(7)}},
		{1000, 0, 1000, 720, 60, []api.Val{none, none, num(3), none, num(7)}},
		{1000, math.MinInt, 1000, 720, 60, []api.Val{none, none, num(3), none, num(7)}},
		{1000, -5, 700, 720, 60, []api.Val{none}},
		{1000, -5, 720, 720, 60, []api.Val{none}},
		{1000, 5, 780, 720, 60, []api.Val{none, none}},
		{960, 659, 1000, 720, 60, []api.Val{none, none, num(3), none, num(7)}},
		{959, 659, 1000, 660, 60, []api.Val{none, none, none, num(3), none}},
		// Early nows: from is at least 0, and time 0 is asked for by nobody.
		{100, -50, 100, 60, 60, []api.Val{none}},
		{60, -50, 60, 10, 10, []api.Val{none, none, none, none, none, none}},
		{1, 0, 0, 10, 10, []api.Val{none}},
		{1, -1, 1, 10, 10, []api.Val{none}},
	} {
		stays(t, f, "Fetch", func() { fetchIs(t, f, x.now, x.from, x.until, x.start, x.step, x.vals...) })
	}
}

// All that can be asked of small files, at many nows.
func TestFetchOfAllTimes(t *testing.T) {
	d := newDice(5)
	for _, h := range []api.Header{header(sum, 0, 1, 1), header(avg, 0, 3, 4), header(sum, 0, 1, 4, 2, 3), header(last, 0, 1, 7, 3, 4, 6, 5), header(avg, 0, 2, 2, 4, 5)} {
		m := newModel(h)
		d.litter(m, 40)
		f := diskWith(t, m.bytes())
		for _, now := range []int{1, 2, 5, 12, 13, 29, 30, 31, 36, 37, 38, 39, 40, 41, 42, 45} {
			for from := -3; from <= now+3; from++ {
				for until := -3; until <= now+8; until++ {
					fetches(t, f, m, now, from, until)
				}
			}
		}
	}
}

// A slot whose At is 0 has no value, not even for a time of which At would be the multiple.
func TestFetchOfEmptySlots(t *testing.T) {
	m := newModel(header(sum, 0, 10, 6))
	for i := range m.rings[0] {
		m.rings[0][i] = pt(0, 7)
	}
	f := diskWith(t, m.bytes())
	fetchIs(t, f, 55, -10, 55, 10, 10, none, none, none, none, none)
	fetchIs(t, f, 5, 0, 5, 10, 10, none)
}

// As many values as may be; they go round the end of the ring.
func TestFetchOfTheGreatestFile(t *testing.T) {
	h := greatest()
	f, m := made(t, h)
	now := 1700000123
	updates(t, f, m, now, pt(now, 1), pt(now-1, 2), pt(now-79999, 3), pt(now-40000, 4), pt(now-80000*7377, 5))
	s, err := whisper.Fetch(f, file, now, now-80000, now)
	if err != api.OK || s.Start != now-79999 || s.Step != 1 || len(s.Vals) != 80000 || s.Vals[0] != num(3) || s.Vals[79999] != num(1) || s.Vals[79998] != num(2) || s.Vals[39999] != num(4) {
		t.Errorf("the first archive: %d values from %d, error %d", len(s.Vals), s.Start, err)
	}
	s, err = whisper.Fetch(f, file, now, 0, now)
	if err != api.OK || s.Step != 80000 || len(s.Vals) != 7378 || s.Vals[0] != num(5) || s.Vals[1] != none {
		t.Errorf("the second archive: %d values from %d, error %d", len(s.Vals), s.Start, err)
	}
	fetches(t, f, m, now, 0, now)
	fetches(t, f, m, now, now-80000, now)
	fetches(t, f, m, now, now-80001, now)
}

// The steps of the coarsest archive may reach behind the greatest time.
func TestFetchAtTheGreatestTime(t *testing.T) {
	f, m := made(t, header(sum, 0, 1<<24, 255))
	updates(t, f, m, maxTime, pt(maxTime, 5), pt(1<<31, 6), pt(1<<24, 7), pt(1<<24+1, 8))
	for _, from := range []int{0, 1 << 24, 1<<24 + 1, 1 << 31, 1<<31 - 1, maxTime - 1, maxTime} {
		for _, until := range []int{0, 1 << 24, 1<<24 + 1, 1 << 31, maxTime - 1, maxTime, maxTime + 1, math.MaxInt} {
			fetches(t, f, m, maxTime, from, until)
		}
	}
	fetchIs(t, f, maxTime, maxTime, maxTime, 1<<32, 1<<24, none)
}

// P7.4

func TestRing(t *testing.T) {
	d := newDice(21)
	for _, h := range headers() {
		m := newModel(h)
		for _, r := range m.rings {
			for j := range r {
				r[j] = pt(int(d.Uint32()), int(d.Uint64()))
			}
		}
		f := diskWith(t, m.bytes())
		n := len(h.Archives)
		answers(t, "vfs.Create", f.Create("pending"), api.OK)
		stays(t, f, "Ring", func() {
			for i, want := range m.rings {
				ringIs(t, f, i, want...)
			}
			for _, i := range []int{-1, -2, math.MinInt, -1 << 32, n, n + 1, 8, 1 << 32, 1<<32 + n - 1, math.MaxInt} {
				if l, err := whisper.Ring(f, file, i); err != api.ErrArg || len(l) != 0 {
					t.Errorf("Ring(%d) of %d archives: %d points, error %d", i, n, len(l), err)
				}
			}
		})
	}
}

func TestRingOfANewFile(t *testing.T) {
	for _, h := range append(headers(), greatest()) {
		f, m := made(t, h)
		for i, want := range m.rings {
			ringIs(t, f, i, want...)
		}
	}
}

// P7.5

// A point of the first archive is fetched at every now at which it is covered, until one more is stored for its time;
// times for which nothing was stored have no value.
func TestStoredPointsStay(t *testing.T) {
	d := newDice(31)
	for _, h := range []api.Header{header(sum, 0, 1, 60, 60, 5), header(avg, 500000, 1, 7, 3, 4), header(last, whole, 1, 12), header(most, 0, 1, 5, 4, 5, 8, 9, 24, 4)} {
		f := newDisk(t, 10000)
		answers(t, "Create", whisper.Create(f, file, h), api.OK)
		count := h.Archives[0].Count
		stored := make(map[int]int)
		for now := 1000; now < 1400; now += d.upTo(3) {
			for range d.upTo(3) {
				p := pt(now-d.upTo(count-1), d.IntN(1000))
				if n, err := whisper.Update(f, file, now, p); n != 1 || err != api.OK {
					t.Fatalf("Update(now %d, %v): %d, error %d", now, p, n, err)
				}
				stored[p.At] = p.N
			}
			s, err := whisper.Fetch(f, file, now, now-count, now)
			if err != api.OK || s.Start != now-count+1 || len(s.Vals) != count {
				t.Fatalf("Fetch: %v, error %d", s, err)
			}
			for i, v := range s.Vals {
				if n, ok := stored[s.Start+i]; v != (api.Val{Ok: ok, N: n}) {
					t.Fatalf("at %d, time %d has %v, want %d, %t", now, s.Start+i, v, n, ok)
				}
			}
		}
	}
}

// A point of any archive is fetched unchanged until its slot is written again or its time is no longer covered.
func TestStoredPointsStayInAllArchives(t *testing.T) {
	for seed, h := range headers() {
		d := newDice(uint64(41 + seed))
		f, m := made(t, h)
		now := 1700000000
		alive := make(map[[2]int]api.Point)
		for range 80 {
			behind := len(m.laid)
			updates(t, f, m, now, d.points(h, now, 4)...)
			for _, l := range m.laid[behind:] {
				delete(alive, [2]int{l.ring, l.place})
				if l.own {
					alive[[2]int{l.ring, l.place}] = l.p
				}
			}
			for at, p := range alive {
				if m.covers(at[0], now, p.At) {
					fetchIs(t, f, now, p.At-1, p.At, p.At, h.Archives[at[0]].Step, num(p.N))
				}
			}
			now += d.upTo(h.Archives[d.IntN(len(h.Archives))].Step)
		}
	}
}

// What was answered for is there behind every crash.
func TestCrashBehindAnUpdate(t *testing.T) {
	for n := -1; n < 5; n++ {
		for m := -1; m < 13; m++ {
			f, want := made(t, header(sum, 0, 1, 6, 3, 4, 6, 10))
			updates(t, f, want, 1000, pt(1000, 5), pt(998, 6))
			f.Crash(n, m)
			isAsModel(t, f, want)
			updates(t, f, want, 1001, pt(1001, 7))
			f.Crash(n, m)
			isAsModel(t, f, want)
			infoIs(t, f, want.Header)
		}
	}
}

// P7.6

func TestPointsStay(t *testing.T) {
	points := func() []api.Point {
		return []api.Point{pt(999, 1), pt(0, 2), pt(950, 3), pt(999, 4), pt(2000, 5), pt(800, maxN+1), pt(800, 6), pt(701, 7), pt(-5, 8)}
	}
	all := points()
	for to := range len(all) + 1 {
		f, m := made(t, minute())
		updates(t, f, m, 1000, all[:to]...)
		if !slices.Equal(all, points()) {
			t.Fatalf("the points, of which %d were handed in, have become %v", to, all)
		}
	}
	// They are not kept either: written over, they change no file.
	f, m := made(t, minute())
	updates(t, f, m, 1000, all...)
	for i := range all {
		all[i] = pt(123, 456)
	}
	isAsModel(t, f, m)
	updates(t, f, m, 1001, pt(1001, 9))
}

func TestHeadersStay(t *testing.T) {
	archives := []api.Archive{{Step: 1, Count: 60}, {Step: 60, Count: 5}, {Step: 3, Count: 3}}
	h := api.Header{Agg: sum, XFF: 5, Archives: archives[:2]}
	f := newDisk(t, 10000)
	answers(t, "Create", whisper.Create(f, file, h), api.OK)
	if !slices.Equal(archives, []api.Archive{{Step: 1, Count: 60}, {Step: 60, Count: 5}, {Step: 3, Count: 3}}) {
		t.Errorf("the archives have become %v", archives)
	}
	clear(archives)
	infoIs(t, f, header(sum, 5, 1, 60, 60, 5))
}

// A name is a text in memory too, which is neither kept nor handed out.
func TestNamesAreNotShared(t *testing.T) {
	letters := []byte(file)
	name := unsafe.String(&letters[0], len(letters))
	f := newDisk(t, 10000)
	answers(t, "Create", whisper.Create(f, name, minute()), api.OK)
	if n, err := whisper.Update(f, name, 1000, pt(1000, 5)); n != 1 || err != api.OK {
		t.Errorf("Update: %d, error %d", n, err)
	}
	s, err := whisper.Fetch(f, name, 1000, 999, 1000)
	clear(letters)
	if s.Name != file || err != api.OK {
		t.Errorf("Fetch: name %q, error %d", s.Name, err)
	}
	fetchIs(t, f, 1000, 999, 1000, 1000, 1, num(5))
}

// spoil writes over all of a result, the memory behind it included.
func spoil[E any](l []E, x E) {
	l = l[:cap(l)]
	for i := range l {
		l[i] = x
	}
}

func TestResultsShareNothing(t *testing.T) {
	d := newDice(51)
	for _, h := range headers() {
		m := newModel(h)
		d.litter(m, 1000)
		f := diskWith(t, m.bytes())
		head, _ := whisper.Info(f, file)
		again, _ := whisper.Info(f, file)
		spoil(head.Archives, api.Archive{Step: 99, Count: 99})
		if !sameHeader(again, h) {
			t.Errorf("two results of Info share memory: %v", again)
		}
		infoIs(t, f, h)
		for i, want := range m.rings {
			ring, _ := whisper.Ring(f, file, i)
			again, _ := whisper.Ring(f, file, i)
			spoil(ring, pt(99, 99))
			if !slices.Equal(again, want) {
				t.Errorf("two results of Ring share memory: %v", again)
			}
		}
		want, _ := m.fetch(1000, 900, 1000)
		s, _ := whisper.Fetch(f, file, 1000, 900, 1000)
		also, _ := whisper.Fetch(f, file, 1000, 900, 1000)
		spoil(s.Vals, num(99))
		if !sameSeries(also, want) {
			t.Errorf("two results of Fetch share memory: %v", also)
		}
		fetches(t, f, m, 1000, 900, 1000)
		isAsModel(t, f, m)
	}
}

// W7
func TestResultsNeverChange(t *testing.T) {
	f, m := made(t, minute())
	updates(t, f, m, 1000, pt(1000, 5), pt(999, 6), pt(900, 7))
	h, _ := whisper.Info(f, file)
	s, _ := whisper.Fetch(f, file, 1000, 998, 1000)
	fine, _ := whisper.Ring(f, file, 0)
	coarse, _ := whisper.Ring(f, file, 1)
	wantFine, wantCoarse := slices.Clone(m.rings[0]), slices.Clone(m.rings[1])
	updates(t, f, m, 1060, pt(1000, 1), pt(1060, 2), pt(1059, 3), pt(990, 4))
	answers(t, "Remove", f.Remove(file), api.OK)
	answers(t, "Create", whisper.Create(f, file, header(last, 1, 60, 60)), api.OK)
	if !sameHeader(h, minute()) || !sameSeries(s, api.Series{Name: file, Start: 999, Step: 1, Vals: []api.Val{num(6), num(5)}}) || !slices.Equal(fine, wantFine) || !slices.Equal(coarse, wantCoarse) {
		t.Errorf("results have become %v, %v, %v, %v", h, s, fine, coarse)
	}
}
