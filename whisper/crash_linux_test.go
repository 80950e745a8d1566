package whisper_test

import (
	"bytes"
	"runtime/debug"
	"slices"
	"syscall"
	"testing"
	"unsafe"

	"graticule/api"
	"graticule/vfs"
	"graticule/whisper"
)

// Update answers only once all is synced, so that what a crash finds within it can't be seen behind it.
// Here it breaks off before: behind the points that it stores lies one in memory that nobody may read.

// fenced is the points, and one more that faults when it is read.
func fenced(t *testing.T, l []api.Point) []api.Point {
	t.Helper()
	page, size := syscall.Getpagesize(), len(l)*int(unsafe.Sizeof(api.Point{}))
	room := (size + page - 1) / page * page
	memory, err := syscall.Mmap(-1, 0, room+page, syscall.PROT_READ|syscall.PROT_WRITE, syscall.MAP_ANON|syscall.MAP_PRIVATE)
	if err != nil {
		t.Fatal("Mmap:", err)
	}
	t.Cleanup(func() { syscall.Munmap(memory) })
	points := unsafe.Slice((*api.Point)(unsafe.Pointer(&memory[room-size])), len(l)+1)
	copy(points, l)
	if err := syscall.Mprotect(memory[room:], syscall.PROT_NONE); err != nil {
		t.Fatal("Mprotect:", err)
	}
	return points
}

// breakOff calls Update, which must fault at the last of the points.
func breakOff(t *testing.T, f *vfs.FS, now int, points []api.Point) {
	t.Helper()
	defer debug.SetPanicOnFault(debug.SetPanicOnFault(true))
	defer func() {
		t.Helper()
		if _, ok := recover().(interface{ Addr() uintptr }); !ok {
			t.Fatal("Update has not come to the last point")
		}
	}()
	whisper.Update(f, file, now, points...)
}

// torn is a file's bytes when the first n writes were made, and so many bytes of the one behind.
func torn(b []byte, writes []write, n, m int) []byte {
	b = slices.Clone(b)
	for i, w := range writes[:min(n+1, len(writes))] {
		row := w.row
		if i == n {
			row = row[:min(m, len(row))]
		}
		copy(b[w.at:], row)
	}
	return b
}

// slotsAreWhole fails unless each slot has its old contents or new ones, or is not one of a time that is covered.
func slotsAreWhole(t *testing.T, f *vfs.FS, before, after *model, now int) {
	t.Helper()
	for i, old := range before.rings {
		got, err := whisper.Ring(f, file, i)
		if err != api.OK || len(got) != len(old) {
			t.Fatalf("Ring(%d): %d points, error %d", i, len(got), err)
		}
		for j, p := range got {
			isNew := func(l laying) bool { return l.ring == i && l.place == j && l.p == p }
			if p == old[j] || slices.ContainsFunc(after.laid[len(before.laid):], isNew) {
				continue
			}
			if p.At > 0 && after.place(i, p.At) == j && aligned(p.At, after.Archives[i].Step) == p.At && after.covers(i, now, p.At) {
				t.Fatalf("slot %d of archive %d holds %v, which nobody stored", j, i, p)
			}
		}
	}
}

// crashesWithin lets an Update of a file break off behind each byte that it writes.
func crashesWithin(t *testing.T, before *model, now int, l ...api.Point) {
	t.Helper()
	after := before.clone()
	after.update(now, l...)
	old, writes, points := before.bytes(), after.writes(len(before.laid)), fenced(t, l)
	for n := range len(writes) + 1 {
		for m := range 9 {
			if n == len(writes) && m > 0 || n < len(writes) && m > len(writes[n].row) {
				break
			}
			f := diskWith(t, old)
			answers(t, "vfs.Create", f.Create("pending"), api.OK)
			breakOff(t, f, now, points)
			if got := f.Pending() - 1; got != len(writes) {
				t.Fatalf("Update(now %d, %v) of %v: %d writes are pending, want %d", now, l, before.Header, got, len(writes))
			}
			f.Crash(n+1, m)
			want := torn(old, writes, n, m)
			if got, err := f.Read(file, 0, len(want)); err != api.OK || !bytes.Equal(got, want) {
				t.Fatalf("Update(now %d, %v) of %v, with %d writes and %d bytes:\n%x, error %d, want\n%x", now, l, before.Header, n, m, got, err, want)
			}
			slotsAreWhole(t, f, before, after, now)
			infoIs(t, f, before.Header)
		}
	}
}

func TestCrashWithinAnUpdateOfAnEmptyFile(t *testing.T) {
	for _, h := range headers() {
		crashesWithin(t, newModel(h), 1700000000)
		crashesWithin(t, newModel(h), 1700000000, pt(1700000000, 5))
	}
	crashesWithin(t, newModel(minute()), 1000, pt(0, 5), pt(1001, 5), pt(1000, maxN+1))
	crashesWithin(t, newModel(minute()), maxTime, pt(maxTime, -maxN), pt(maxTime-100, maxN), pt(maxTime-1, -5))
}

// Over slots of a round before, and over those of the same time.
func TestCrashWithinAnUpdateOfAFullFile(t *testing.T) {
	for seed, h := range headers() {
		for _, now := range []int{600, 0x010203, 0x01000004, 0x01010108, 0x0fffffff, 1700000000, maxTime} {
			d := newDice(uint64(61 + seed))
			m := newModel(h)
			// Two rounds of the coarsest archive come first, then two of each finer one: all places have old points.
			for _, a := range slices.Backward(h.Archives) {
				for at := max(1, now-2*spanOf(a)); at < now; at += a.Step {
					m.store(at, pt(at, d.n()))
				}
			}
			l := d.points(h, now, 3)
			crashesWithin(t, m, now, append(l, pt(now, d.IntN(1000)), pt(max(now-1, 1), 7))...)
		}
	}
}

// A time that is half written may be that of another slot, but in its own one it is not looked for.
func TestCrashWithinATime(t *testing.T) {
	before := newModel(header(sum, 0, 1, 300))
	before.update(512, pt(261, 1), pt(512, 2))
	after := before.clone()
	after.update(561, pt(561, 3))
	f, points := diskWith(t, before.bytes()), fenced(t, []api.Point{pt(561, 3)})
	breakOff(t, f, 561, points)
	f.Crash(2, 3)
	// Of 561, three bytes are 512.
	if l, err := whisper.Ring(f, file, 0); err != api.OK || l[261] != pt(512, 3) || l[212] != pt(512, 2) {
		t.Errorf("Ring: %v, %v, error %d", l[261], l[212], err)
	}
	fetchIs(t, f, 561, 510, 513, 511, 1, none, num(2), none)
	fetchIs(t, f, 561, 560, 561, 561, 1, none)
	slotsAreWhole(t, f, before, after, 561)
}
