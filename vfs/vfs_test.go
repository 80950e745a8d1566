package vfs_test

import (
	"bytes"
	"math"
	"slices"
	"strconv"
	"strings"
	"testing"
	"unsafe"

	"graticule/api"
	"graticule/vfs"
)

const mostRoom = 1 << 30

var (
	longest = strings.Repeat("n", 255)
	tooLong = strings.Repeat("n", 256)
)

// files is what file systems of these tests have.
type files = map[string]string

// P3.1: New

func TestNew(t *testing.T) {
	for _, room := range []int{0, 1, 2, 65536, 1<<20 - 1, mostRoom - 1, mostRoom} {
		f, err := vfs.New(room)
		if err != api.OK || f == nil {
			t.Fatalf("New(%d): %v, error %d", room, f, err)
		}
		holds(t, f, nil, 0)
	}
	for _, room := range []int{-1, -2, -mostRoom, mostRoom + 1, mostRoom + 2, 1 << 31, 1 << 32, 1<<32 + 1, math.MaxInt, math.MinInt, math.MinInt + 1} {
		if f, err := vfs.New(room); f != nil || err != api.ErrArg {
			t.Errorf("New(%d): %v, error %d", room, f, err)
		}
	}
}

func TestCapacityOfNothing(t *testing.T) {
	f := makeFS(t, 0, create("a"), create("b", "", ""))
	answers(t, "a byte without room", f.Create("c", []byte("x")), api.ErrFull)
	answers(t, "no bytes without room", f.Create("c"), api.OK)
	holds(t, f, files{"a": "", "b": "", "c": ""}, 3)
}

func TestGreatestCapacity(t *testing.T) {
	f := makeFS(t, mostRoom)
	mega := bytes.Repeat([]byte("graticul"), 1<<17)
	all := slices.Repeat([][]byte{mega}, 1<<10)
	answers(t, "one byte more than the greatest capacity", f.Create("big", append(slices.Clone(all), []byte("x"))...), api.ErrFull)
	answers(t, "the greatest capacity", f.Create("big", all...), api.OK)
	if n, err := f.Size("big"); n != mostRoom || err != api.OK || f.Used() != mostRoom {
		t.Error("size of the greatest file:", n, err, f.Used())
	}
	answers(t, "one more byte", f.Create("b", []byte("x")), api.ErrFull)
	answers(t, "no more bytes", f.Create("b"), api.OK)
	answers(t, "the last byte", f.WriteAt("big", mostRoom-1, []byte("!")), api.OK)
	answers(t, "the byte behind it", f.WriteAt("big", mostRoom, []byte("!")), api.ErrArg)
	if b, err := f.Read("big", mostRoom-9, 9); string(b) != "lgraticu!" || err != api.OK {
		t.Errorf("the end of the greatest file: %q, %d", b, err)
	}
}

// P3.1: Create

func TestCreate(t *testing.T) {
	for _, x := range []struct {
		p    [][]byte
		want string
	}{
		{nil, ""}, {[][]byte{}, ""}, {[][]byte{nil}, ""}, {[][]byte{{}}, ""}, {[][]byte{nil, {}, nil}, ""},
		{[][]byte{[]byte("a")}, "a"}, {[][]byte{[]byte("abc")}, "abc"}, {[][]byte{[]byte("abc"), []byte("d"), []byte("ef")}, "abcdef"},
		{[][]byte{nil, []byte("abc"), {}, []byte("d"), nil}, "abcd"}, {[][]byte{{0}, {0, 255}, {128}}, "\x00\x00\xff\x80"},
		{[][]byte{bytes.Repeat([]byte("x"), 30), bytes.Repeat([]byte("y"), 34)}, strings.Repeat("x", 30) + strings.Repeat("y", 34)},
	} {
		f := makeFS(t, 64)
		answers(t, "Create of "+strconv.Quote(x.want), f.Create("a", x.p...), api.OK)
		holds(t, f, files{"a": x.want}, 1)
	}
	f := makeFS(t, 64)
	same := []byte("ab")
	answers(t, "Create of the same bytes three times", f.Create("a", same, same, same), api.OK)
	holds(t, f, files{"a": "ababab"}, 1)
	f = makeFS(t, 64)
	answers(t, "Create of many parts", f.Create("a", slices.Repeat([][]byte{{'x'}, nil}, 60)...), api.OK)
	holds(t, f, files{"a": strings.Repeat("x", 60)}, 1)
}

// validNames are names that a file may have, and no two of which are the same.
func validNames() []string {
	l := []string{
		"a", "A", "ab", "a.b", "a/b.wsp", "/", "//", ".", "..", "a b", "a\n", "-", "*", "None",
		"\u00e9", "e\u0301", "\u2028", "\xff\xff", "\xc3", "\xed\xa0\x80", "\x00\x00", "a\x00", "a\x00b",
		longest, strings.Repeat("n", 254), strings.Repeat("\x00", 255), strings.Repeat("\xff", 255), strings.Repeat("\u20ac", 85), longest[1:] + "m",
	}
	for b := range 256 {
		if c := string([]byte{byte(b)}); !slices.Contains(l, c) {
			l = append(l, c)
		}
	}
	return l
}

// wrongNames are names that no file may have: some have 255 letters and fewer, but more bytes.
func wrongNames() []string {
	return []string{"", tooLong, strings.Repeat("n", 257), strings.Repeat("\x00", 256), strings.Repeat("\u00e9", 128), strings.Repeat("\u00e9", 255), strings.Repeat("\u20ac", 86), strings.Repeat("n", 1<<16), strings.Repeat("n", 1<<16+1)}
}

func TestNamesOfFiles(t *testing.T) {
	f, want := makeFS(t, 1<<16), files{}
	for _, name := range validNames() {
		answers(t, "Create of "+strconv.Quote(name), f.Create(name, []byte(name)), api.OK)
		want[name] = name
	}
	holds(t, f, want, len(want))
	for name := range want {
		answers(t, "Create anew of "+strconv.Quote(name), f.Create(name), api.ErrHas)
		answers(t, "WriteAt to "+strconv.Quote(name), f.WriteAt(name, len(name)-1, []byte("!")), api.OK)
		want[name] = name[:len(name)-1] + "!"
	}
	holds(t, f, want, 2*len(want))
	for _, name := range wrongNames() {
		refusesName(t, f, name)
	}
	holds(t, f, want, 2*len(want))
	for name := range want {
		answers(t, "Remove of "+strconv.Quote(name), f.Remove(name), api.OK)
	}
	holds(t, f, nil, 3*len(want))
}

// refusesName fails unless every function refuses the name.
func refusesName(t *testing.T, f *vfs.FS, name string) {
	t.Helper()
	of := " of a name of " + strconv.Itoa(len(name)) + " bytes"
	answers(t, "Create"+of, f.Create(name), api.ErrArg)
	answers(t, "Create"+of, f.Create(name, []byte("x")), api.ErrArg)
	answers(t, "WriteAt"+of, f.WriteAt(name, 0), api.ErrArg)
	answers(t, "Remove"+of, f.Remove(name), api.ErrArg)
	b, err := f.Read(name, 0, 0)
	answers(t, "Read"+of, err, api.ErrArg)
	n, err := f.Size(name)
	answers(t, "Size"+of, err, api.ErrArg)
	if len(b) != 0 || n != 0 {
		t.Error("beside an error:", b, n)
	}
}

func TestCreateUpToTheCapacity(t *testing.T) {
	f := makeFS(t, 10)
	answers(t, "one byte more", f.Create("a", []byte("0123456789a")), api.ErrFull)
	answers(t, "one byte more in parts", f.Create("a", []byte("01234"), nil, []byte("56789"), []byte("a")), api.ErrFull)
	answers(t, "far more", f.Create("a", bytes.Repeat([]byte("x"), 1<<16)), api.ErrFull)
	holds(t, f, nil, 0)
	answers(t, "just that many", f.Create("a", []byte("01234"), nil, []byte("56789")), api.OK)
	answers(t, "a byte in a full system", f.Create("b", []byte("x")), api.ErrFull)
	answers(t, "no bytes in a full system", f.Create("b", nil), api.OK)
	answers(t, "WriteAt in a full system", f.WriteAt("a", 0, []byte("abcdefghij")), api.OK)
	holds(t, f, files{"a": "abcdefghij", "b": ""}, 3)

	f = makeFS(t, 10, create("a", "0123"), sync(), create("b", "456"))
	answers(t, "one byte more than is left", f.Create("c", []byte("78"), []byte("9a")), api.ErrFull)
	answers(t, "what is left", f.Create("c", []byte("78"), []byte("9")), api.OK)
	answers(t, "nothing is left", f.Create("d", []byte("x")), api.ErrFull)
	holds(t, f, files{"a": "0123", "b": "456", "c": "789"}, 2)
}

func TestRoomComesFree(t *testing.T) {
	full := []step{create("a", "0123"), create("b", "456789")}
	for _, x := range []struct {
		what string
		free step
		room int
	}{
		{"a Remove", remove("a"), 4}, {"another Remove", remove("b"), 6},
		{"a crash of the last", crash(1, 0), 6}, {"a crash of both", crash(0, 0), 10}, {"a crash of none", crash(2, 0), 0},
		{"a Sync", sync(), 0}, {"a write", write("a", 0, "xyz"), 0},
	} {
		f := makeFS(t, 10, append(full, x.free)...)
		answers(t, "one byte more than "+x.what+" leaves", f.Create("c", make([]byte, x.room+1)), api.ErrFull)
		answers(t, "as much as "+x.what+" leaves", f.Create("c", make([]byte, x.room)), api.OK)
		if f.Used() != 10 {
			t.Error(x.what, f.Used())
		}
	}
	// A removed file that a crash brings back has its room again.
	f := makeFS(t, 10, append(full, sync(), remove("b"), create("c", "012345"), crash(0, 0))...)
	answers(t, "a byte when the removed file is back", f.Create("d", []byte("x")), api.ErrFull)
	holds(t, f, files{"a": "0123", "b": "456789"}, 0)
	// And what was undone has none.
	f = makeFS(t, 10, append(full, sync(), remove("b"), create("c", "012345"), crash(1, 0))...)
	answers(t, "room of what was undone", f.Create("d", []byte("012345")), api.OK)
	holds(t, f, files{"a": "0123", "d": "012345"}, 1)
}

func TestOrderOfTheErrorsOfCreate(t *testing.T) {
	f := makeFS(t, 3, create("a", "abc"))
	more := []byte("more than there is room for")
	for _, name := range wrongNames() {
		answers(t, "a wrong name without room", f.Create(name, more), api.ErrArg)
	}
	answers(t, "a name that is there, without room", f.Create("a", more), api.ErrHas)
	answers(t, "a name that is there, with the same bytes", f.Create("a", []byte("abc")), api.ErrHas)
	answers(t, "a name that is there, without bytes", f.Create("a"), api.ErrHas)
	answers(t, "no room", f.Create("b", more), api.ErrFull)
	holds(t, f, files{"a": "abc"}, 1)
	answers(t, "Remove", f.Remove("a"), api.OK)
	answers(t, "a name that is free again", f.Create("a", []byte("xyz")), api.OK)
	holds(t, f, files{"a": "xyz"}, 3)
}

// P3.1: WriteAt

func TestWriteAt(t *testing.T) {
	for _, x := range []struct {
		at   int
		p    []string
		want string
	}{
		{0, []string{"x"}, "xbcde"}, {1, []string{"xy"}, "axyde"}, {4, []string{"x"}, "abcdx"}, {3, []string{"xy"}, "abcxy"}, {0, []string{"vwxyz"}, "vwxyz"},
		{0, []string{"v", "w", "x", "y", "z"}, "vwxyz"}, {1, []string{"vw", "x"}, "avwxe"}, {2, []string{"", "v", "", "w", ""}, "abvwe"}, {2, []string{"c"}, "abcde"},
		{0, nil, "abcde"}, {0, []string{""}, "abcde"}, {3, []string{"", "", ""}, "abcde"}, {5, nil, "abcde"}, {5, []string{""}, "abcde"}, {5, []string{"", ""}, "abcde"},
		{1, []string{"\x00\xff", "\x80"}, "a\x00\xff\x80e"},
	} {
		f := makeFS(t, 20, create("a", "abcde"), create("b", "abcde"))
		s := write("a", x.at, x.p...)
		answers(t, s.String(), s.on(f), api.OK)
		holds(t, f, files{"a": x.want, "b": "abcde"}, 3)
	}
}

func TestWriteAtOverItself(t *testing.T) {
	f := makeFS(t, 6, create("a", "......"), write("a", 0, "abc"), write("a", 2, "de"), write("a", 3, "fgh"))
	holds(t, f, files{"a": "abdfgh"}, 4)
}

func TestWriteAtBeyondTheEnd(t *testing.T) {
	f := makeFS(t, 20, create("a", "abcde"), create("none"))
	for _, s := range []step{
		write("a", -1), write("a", -1, "x"), write("a", -5, "abcde"), write("a", -1, "", ""), write("a", math.MinInt), write("a", math.MinInt, "x"), write("a", math.MinInt+1, "xy"),
		write("a", 6), write("a", 6, ""), write("a", 6, "x"), write("a", 5, "x"), write("a", 4, "xy"), write("a", 4, "x", "", "y"), write("a", 0, "uvwxyz"), write("a", 0, "u", "vw", "xyz"), write("a", 1, "vwxyz"),
		write("a", math.MaxInt), write("a", math.MaxInt, "x"), write("a", math.MaxInt, "abcdef"), write("a", math.MaxInt-1, "xy"), write("a", math.MaxInt-4, "abcde"), write("a", math.MaxInt, "abc", "def"), write("a", 1<<32, "x"), write("a", 1<<32),
		write("none", 0, "x"), write("none", 1), write("none", -1), write("none", 0, "", "x", ""), write("none", math.MaxInt, "x"),
	} {
		answers(t, s.String(), s.on(f), api.ErrArg)
	}
	holds(t, f, files{"a": "abcde", "none": ""}, 2)
	s := write("none", 0)
	answers(t, s.String(), s.on(f), api.OK)
	holds(t, f, files{"a": "abcde", "none": ""}, 3)
}

func TestOrderOfTheErrorsOfWriteAt(t *testing.T) {
	f := makeFS(t, 20, create("a", "abcde"), create("gone", "x"), remove("gone"))
	for _, at := range []int{0, -1, 6, math.MaxInt, math.MinInt} {
		for _, name := range wrongNames() {
			answers(t, "a wrong name", f.WriteAt(name, at, []byte("x")), api.ErrArg)
		}
		for _, name := range []string{"b", "gone", "A", "a\x00", "a ", longest} {
			answers(t, "no such file", f.WriteAt(name, at, []byte("x")), api.ErrNone)
			answers(t, "no such file", f.WriteAt(name, at), api.ErrNone)
		}
	}
	holds(t, f, files{"a": "abcde"}, 3)
}

// P3.1: Remove

func TestRemove(t *testing.T) {
	f := makeFS(t, 20, create("a", "abc"), create("b", "de"), create("c"))
	for _, name := range wrongNames() {
		answers(t, "a wrong name", f.Remove(name), api.ErrArg)
	}
	answers(t, "no such file", f.Remove("d"), api.ErrNone)
	answers(t, "no such file", f.Remove(longest), api.ErrNone)
	holds(t, f, files{"a": "abc", "b": "de", "c": ""}, 3)
	answers(t, "Remove", f.Remove("b"), api.OK)
	holds(t, f, files{"a": "abc", "c": ""}, 4)
	answers(t, "Remove again", f.Remove("b"), api.ErrNone)
	_, err := f.Size("b")
	answers(t, "Size of what was removed", err, api.ErrNone)
	_, err = f.Read("b", 0, 0)
	answers(t, "Read of what was removed", err, api.ErrNone)
	answers(t, "WriteAt to what was removed", f.WriteAt("b", 0), api.ErrNone)
	answers(t, "Remove of a file of no bytes", f.Remove("c"), api.OK)
	answers(t, "Remove of the last", f.Remove("a"), api.OK)
	holds(t, f, nil, 6)
}

// W3: a call that is refused changes nothing, what is pending included.
func TestWhatIsRefusedChangesNothing(t *testing.T) {
	refused := []step{
		create(""), create(tooLong, "x"), create("a"), create("b", "too much of it"), write("", 0), write("b", 0), write("a", -1), write("a", 0, "abcd"),
		write("a", 4), write("a", math.MaxInt, "x"), remove(""), remove("b"), remove(tooLong),
	}
	for n := -1; n <= 4; n++ {
		f := makeFS(t, 5, create("a", "123"), sync(), write("a", 0, "xy"))
		for _, s := range refused {
			if s.on(f) == api.OK {
				t.Error("not refused:", s)
			}
			holds(t, f, files{"a": "xy3"}, 1)
		}
		f.Crash(n, 1)
		want := "xy3"
		if n < 1 {
			want = "x23"
		}
		holds(t, f, files{"a": want}, 0)
	}
}

// P3.2

func TestRead(t *testing.T) {
	f := makeFS(t, 20, create("a", "abcde"), create("none"), create("b", "\x00\xff"))
	for at := range 6 {
		for n := range 6 - at {
			if b, err := f.Read("a", at, n); string(b) != "abcde"[at:at+n] || err != api.OK {
				t.Errorf("Read(a, %d, %d): %q, error %d", at, n, b, err)
			}
		}
	}
	if b, err := f.Read("none", 0, 0); len(b) != 0 || err != api.OK {
		t.Error("of no bytes:", b, err)
	}
	if b, err := f.Read("b", 0, 2); string(b) != "\x00\xff" || err != api.OK {
		t.Error("any bytes:", b, err)
	}
	holds(t, f, files{"a": "abcde", "none": "", "b": "\x00\xff"}, 3)
}

func TestReadBeyondTheEnd(t *testing.T) {
	f := makeFS(t, 20, create("a", "abcde"), create("none"))
	ends := []int{math.MinInt, math.MinInt + 1, -1 << 32, -6, -5, -1, 0, 1, 4, 5, 6, 1 << 32, 1<<62 - 1, 1 << 62, math.MaxInt - 5, math.MaxInt - 1, math.MaxInt}
	for name, data := range (files{"a": "abcde", "none": ""}) {
		for _, at := range ends {
			for _, n := range ends {
				want := api.OK
				if at < 0 || n < 0 || beyond(at, n, len(data)) {
					want = api.ErrArg
				}
				b, err := f.Read(name, at, n)
				if err != want || err != api.OK && len(b) != 0 {
					t.Errorf("Read(%s, %d, %d): %q, error %d, want %d", name, at, n, b, err, want)
				}
			}
		}
	}
}

func TestOrderOfTheErrorsOfReadAndSize(t *testing.T) {
	f := makeFS(t, 20, create("a", "abcde"), create("gone", "x"), remove("gone"))
	refuses := func(name string, want api.Errno) {
		t.Helper()
		for _, at := range []int{0, -1, 6, math.MaxInt, math.MinInt} {
			for _, n := range []int{0, 1, -1, math.MaxInt, math.MinInt} {
				if b, err := f.Read(name, at, n); len(b) != 0 || err != want {
					t.Errorf("Read(%.10q, %d, %d): %q, error %d, want %d", name, at, n, b, err, want)
				}
			}
		}
		if n, err := f.Size(name); n != 0 || err != want {
			t.Errorf("Size(%.10q): %d, error %d, want %d", name, n, err, want)
		}
	}
	for _, name := range wrongNames() {
		refuses(name, api.ErrArg)
	}
	for _, name := range []string{"b", "gone", "A", "a\x00", "aa", longest} {
		refuses(name, api.ErrNone)
	}
}

func TestSizeAndUsed(t *testing.T) {
	f := makeFS(t, 1000)
	used := 0
	for n := range 40 {
		name := strconv.Itoa(n)
		answers(t, "Create", f.Create(name, make([]byte, n)), api.OK)
		used += n
		if size, err := f.Size(name); size != n || err != api.OK || f.Used() != used {
			t.Error(n, size, err, f.Used(), used)
		}
	}
	for n := range 40 {
		answers(t, "WriteAt", f.WriteAt(strconv.Itoa(n), 0, make([]byte, n)), api.OK)
		if f.Used() != used {
			t.Error("Used() after a WriteAt:", f.Used(), used)
		}
	}
	for n := range 40 {
		answers(t, "Remove", f.Remove(strconv.Itoa(n)), api.OK)
		used -= n
		if f.Used() != used {
			t.Error("Used() after a Remove:", f.Used(), used)
		}
	}
}

func TestListIsInTheOrderOfBytes(t *testing.T) {
	want := []string{
		"\x00", "\x00\x00", " ", "-", ".", "/", "0", "10", "9", "A", "B", "Z", "_", "a", "a\x00", "a b", "a-b", "a.b", "a.b.c", "a/b", "aa", "ab", "b", "\x7f",
		"\x80", "\xc3", "\u00e9", "\u00e9\u20ac", "\xe2", "\u20ac", "\uff01", "\U0001d7cf", "\xfe", "\xff", "\xff\x00", "\xff\xff",
	}
	f := makeFS(t, 0)
	// Backwards and then forwards from the middle, so that no order of making them is that of the bytes.
	for i := len(want)/2 - 1; i >= 0; i-- {
		answers(t, "Create", f.Create(want[i]), api.OK)
	}
	for i := len(want) - 1; i >= len(want)/2; i-- {
		answers(t, "Create", f.Create(want[i]), api.OK)
	}
	for range 20 {
		if l := f.List(); !slices.Equal(l, want) {
			t.Fatalf("got %q, want %q", l, want)
		}
	}
	answers(t, "Remove", f.Remove("a"), api.OK)
	if l := f.List(); len(l) != len(want)-1 || slices.Contains(l, "a") || !slices.Contains(l, "aa") {
		t.Errorf("without a: %q", l)
	}
	answers(t, "Create", f.Create("a"), api.OK)
	if l := f.List(); !slices.Equal(l, want) {
		t.Errorf("with a again: %q", l)
	}
}

func TestPending(t *testing.T) {
	f := makeFS(t, 10)
	for i, s := range []struct {
		step step
		want int
	}{
		{create("a", "abc"), 1}, {create("a"), 1}, {write("a", 0, "x"), 2}, {write("a", 3), 3}, {write("a", 3, "x"), 3}, {write("a", 0, ""), 4}, {create("b"), 5},
		{remove("b"), 6}, {remove("b"), 6}, {create("b"), 7}, {sync(), 0}, {sync(), 0}, {write("a", 0, "x"), 1}, {write("a", 0, "x"), 2}, {crash(1, 1), 0}, {remove("b"), 1}, {crash(5, 5), 0}, {crash(0, 0), 0},
	} {
		s.step.on(f)
		f.Read("a", 0, 1)
		f.Size("a")
		f.List()
		f.Used()
		if n := f.Pending(); n != s.want {
			t.Errorf("%d: %v: Pending() is %d, want %d", i, s.step, n, s.want)
		}
	}
}

// P3.3

func TestSyncMakesAllLast(t *testing.T) {
	for n := -2; n <= 5; n++ {
		for m := -2; m <= 5; m++ {
			f := makeFS(t, 20, create("a", "abc"), create("b", "de"), create("c", "f"), write("a", 0, "xy"), remove("b"), sync())
			want := files{"a": "xyc", "c": "f"}
			holds(t, f, want, 0)
			f.Crash(n, m)
			holds(t, f, want, 0)
			f.Sync()
			f.Sync()
			holds(t, f, want, 0)
		}
	}
}

func TestSyncLetsWhatIsBehindItBeUndone(t *testing.T) {
	f := makeFS(t, 20, create("a", "abc"), sync(), write("a", 0, "x"), sync(), write("a", 1, "yz"), create("b", "12"), remove("a"))
	holds(t, f, files{"b": "12"}, 3)
	f.Crash(0, 0)
	holds(t, f, files{"a": "xbc"}, 0)
}

// crashes makes the steps anew for every n from -2 to beyond their number and
// every m from -2 to 6, and fails unless want(n, m) is what Crash(n, m) leaves.
func crashes(t *testing.T, synced, steps []step, want func(n, m int) files) {
	t.Helper()
	ns, ms := []int{math.MinInt, math.MaxInt, math.MaxInt - 1, 1 << 32}, []int{math.MinInt, math.MaxInt, math.MaxInt - 1, 1 << 32}
	for i := -2; i <= 6 || i <= len(steps)+2; i++ {
		ns, ms = append(ns, i), append(ms, i)
	}
	for _, n := range ns {
		for _, m := range ms {
			f := makeFS(t, 40, synced...)
			f.Sync()
			for _, s := range steps {
				answers(t, s.String(), s.on(f), api.OK)
			}
			f.Crash(n, m)
			if d := differs(f, want(n, m), 0); d != "" {
				t.Fatalf("Crash(%d, %d): %s", n, m, d)
			}
			// What a crash leaves isn't undone by another.
			f.Crash(0, 0)
			if d := differs(f, want(n, m), 0); d != "" {
				t.Fatalf("Crash(%d, %d) and again: %s", n, m, d)
			}
		}
	}
}

// among is the element n of l, or its first or last if n is outside.
func among[T any](n int, l ...T) T { return l[max(0, min(n, len(l)-1))] }

func TestCrashBeforeACreate(t *testing.T) {
	crashes(t, []step{create("a", "abc")}, []step{create("b", "de"), create("c"), create("d", "f", "g")}, func(n, m int) files {
		return among[files](n, files{"a": "abc"}, files{"a": "abc", "b": "de"}, files{"a": "abc", "b": "de", "c": ""}, files{"a": "abc", "b": "de", "c": "", "d": "fg"})
	})
}

func TestCrashBeforeARemove(t *testing.T) {
	crashes(t, []step{create("a", "abc"), create("b", "de"), create("c")}, []step{remove("b"), remove("c"), remove("a")}, func(n, m int) files {
		return among[files](n, files{"a": "abc", "b": "de", "c": ""}, files{"a": "abc", "c": ""}, files{"a": "abc"}, files{})
	})
}

func TestCrashBeforeAWriteAt(t *testing.T) {
	crashes(t, []step{create("a", "abcdef"), create("b", "uvwxyz")}, []step{write("a", 1, "123", "4"), write("b", 5, "5"), write("a", 6, "")}, func(n, m int) files {
		switch {
		case n <= 0:
			return files{"a": among(m, "abcdef", "a1cdef", "a12def", "a123ef", "a1234f"), "b": "uvwxyz"}
		case n == 1:
			return files{"a": "a1234f", "b": among(m, "uvwxyz", "uvwxy5")}
		}
		return files{"a": "a1234f", "b": "uvwxy5"}
	})
}

func TestCrashAmongWritesToOneFile(t *testing.T) {
	crashes(t, []step{create("a", "......")}, []step{write("a", 0, "abcd"), write("a", 2, "efgh"), write("a", 1, "i", "jk"), write("a", 0, "lmnopq")}, func(n, m int) files {
		return files{"a": among(n,
			among(m, "......", "a.....", "ab....", "abc...", "abcd.."),
			among(m, "abcd..", "abed..", "abef..", "abefg.", "abefgh"),
			among(m, "abefgh", "aiefgh", "aijfgh", "aijkgh"),
			among(m, "aijkgh", "lijkgh", "lmjkgh", "lmnkgh", "lmnogh", "lmnoph", "lmnopq"),
			"lmnopq")}
	})
}

func TestCrashOfAFileThatIsMadeAnew(t *testing.T) {
	crashes(t, []step{create("a", "abc")}, []step{write("a", 0, "12"), remove("a"), create("a", "wxyz"), write("a", 2, "34"), remove("a"), create("a")}, func(n, m int) files {
		switch {
		case n <= 0:
			return files{"a": among(m, "abc", "1bc", "12c")}
		case n == 1:
			return files{"a": "12c"}
		case n == 2 || n == 5:
			return nil
		case n == 3:
			return files{"a": among(m, "wxyz", "wx3z", "wx34")}
		case n == 4:
			return files{"a": "wx34"}
		}
		return files{"a": ""}
	})
}

func TestCrashOfAFileThatIsMadeAndWritten(t *testing.T) {
	crashes(t, nil, []step{create("a", "abc"), write("a", 1, "12"), create("b", "d"), write("b", 0, "3"), remove("a")}, func(n, m int) files {
		switch {
		case n <= 0:
			return nil
		case n == 1:
			return files{"a": among(m, "abc", "a1c", "a12")}
		case n == 2:
			return files{"a": "a12"}
		case n == 3:
			return files{"a": "a12", "b": among(m, "d", "3")}
		case n == 4:
			return files{"a": "a12", "b": "3"}
		}
		return files{"b": "3"}
	})
}

func TestCrashAtAWriteAtOfNoBytes(t *testing.T) {
	crashes(t, []step{create("a", "abc"), create("b")}, []step{write("a", 1), write("b", 0, "", ""), write("a", 3, ""), write("a", 0, "xyz")}, func(n, m int) files {
		if n < 3 {
			return files{"a": "abc", "b": ""}
		}
		return files{"a": among(n, "", "", "", among(m, "abc", "xbc", "xyc", "xyz"), "xyz"), "b": ""}
	})
}

func TestCrashWithNothingPending(t *testing.T) {
	crashes(t, []step{create("a", "abc"), create("b")}, nil, func(n, m int) files { return files{"a": "abc", "b": ""} })
	crashes(t, nil, nil, func(n, m int) files { return nil })
}

func TestOperationsBehindACrash(t *testing.T) {
	f := makeFS(t, 20, create("a", "abcdef"), sync(), write("a", 0, "123"), create("b", "x"), crash(0, 2))
	holds(t, f, files{"a": "12cdef"}, 0)
	answers(t, "WriteAt", f.WriteAt("a", 1, []byte("yz")), api.OK)
	answers(t, "Create", f.Create("b", []byte("new")), api.OK)
	holds(t, f, files{"a": "1yzdef", "b": "new"}, 2)
	f.Crash(1, 0)
	holds(t, f, files{"a": "1yzdef"}, 0)
	answers(t, "Remove", f.Remove("a"), api.OK)
	holds(t, f, nil, 1)
	f.Crash(0, 9)
	holds(t, f, files{"a": "1yzdef"}, 0)
	answers(t, "Remove", f.Remove("a"), api.OK)
	f.Sync()
	f.Crash(0, 0)
	holds(t, f, nil, 0)
}

// P3.4

// roomy is a slice of s with spare room behind it, which is full of dots.
func roomy(s string) []byte {
	b := append([]byte(s), "........"...)
	return b[:len(s)]
}

// isRoomy tells whether b is roomy(s) still.
func isRoomy(b []byte, s string) bool {
	return string(b) == s && cap(b) >= len(s)+8 && string(b[len(s):len(s)+8]) == "........"
}

func TestArgumentsAreNeitherModifiedNorKept(t *testing.T) {
	use := []struct {
		what string
		call func(f *vfs.FS, p ...[]byte) api.Errno
		want api.Errno
	}{
		{"Create", func(f *vfs.FS, p ...[]byte) api.Errno { return f.Create("new", p...) }, api.OK},
		{"WriteAt", func(f *vfs.FS, p ...[]byte) api.Errno { return f.WriteAt("a", 1, p...) }, api.OK},
		{"Create of what is there", func(f *vfs.FS, p ...[]byte) api.Errno { return f.Create("a", p...) }, api.ErrHas},
		{"WriteAt beyond", func(f *vfs.FS, p ...[]byte) api.Errno { return f.WriteAt("a", 6, p...) }, api.ErrArg},
		{"WriteAt to none", func(f *vfs.FS, p ...[]byte) api.Errno { return f.WriteAt("b", 0, p...) }, api.ErrNone},
	}
	for _, x := range use {
		f := makeFS(t, 40, create("a", "0123456789"), sync())
		texts := []string{"abc", "", "def"}
		p := make([][]byte, 0, 6)
		for _, s := range texts {
			p = append(p, roomy(s))
		}
		spare := append(p, roomy("one"), roomy("two"))[3:]
		answers(t, x.what, x.call(f, p...), x.want)
		before := contentsOf(f)
		for i, s := range texts {
			if !isRoomy(p[i], s) {
				t.Errorf("%s: argument %d is %q", x.what, i, p[i][:cap(p[i])])
			}
		}
		if len(spare) != 2 || !isRoomy(spare[0], "one") || !isRoomy(spare[1], "two") {
			t.Errorf("%s: behind the arguments: %q", x.what, spare)
		}
		for i := range p {
			scribble(p[i])
			p[i] = roomy("other")
		}
		holds(t, f, before, f.Pending())
		f.Crash(1, 0)
		holds(t, f, before, 0)
	}
}

// scribble writes over b, its spare room included.
func scribble(b []byte) {
	b = b[:cap(b)]
	for i := range b {
		b[i] = '#'
	}
}

// contentsOf is all files of f.
func contentsOf(f *vfs.FS) files {
	all := files{}
	for _, name := range f.List() {
		n, _ := f.Size(name)
		b, _ := f.Read(name, 0, n)
		all[name] = string(b)
	}
	return all
}

// What a torn write brings back is not in an argument or a result either.
func TestWhatIsUndoneIsNotShared(t *testing.T) {
	f := makeFS(t, 40, create("a", "0123456789"), sync())
	old, _ := f.Read("a", 0, 10)
	p := roomy("abcde")
	answers(t, "WriteAt", f.WriteAt("a", 2, p), api.OK)
	written, _ := f.Read("a", 0, 10)
	scribble(p)
	scribble(old)
	scribble(written)
	holds(t, f, files{"a": "01abcde789"}, 1)
	f.Crash(0, 2)
	holds(t, f, files{"a": "01ab456789"}, 0)

	f = makeFS(t, 40, create("a", "0123456789"), sync(), remove("a"), create("a", "0123456789"))
	b, _ := f.Read("a", 0, 10)
	scribble(b)
	f.Crash(1, 0)
	holds(t, f, nil, 0)
}

func TestResultsShareNothing(t *testing.T) {
	f := makeFS(t, 400, create("a", "0123456789"), create("b", "abc"), create("none"))
	for at := range 11 {
		for n := range 11 - at {
			b1, _ := f.Read("a", at, n)
			b2, _ := f.Read("a", at, n)
			scribble(b1)
			if string(b2) != "0123456789"[at:at+n] {
				t.Errorf("Read(a, %d, %d) shares memory with itself: %q", at, n, b2)
			}
			scribble(b2)
			holds(t, f, files{"a": "0123456789", "b": "abc", "none": ""}, 3)
		}
	}
	l1, l2 := f.List(), f.List()
	l1 = l1[:cap(l1)]
	for i := range l1 {
		l1[i] = "#"
	}
	if !slices.Equal(l2, []string{"a", "b", "none"}) {
		t.Errorf("List shares memory with itself: %q", l2)
	}
	holds(t, f, files{"a": "0123456789", "b": "abc", "none": ""}, 3)
}

// A name is a text in memory too, which is neither kept nor handed out.
func TestNamesShareNothing(t *testing.T) {
	f := makeFS(t, 10)
	letters := []byte("name")
	name := unsafe.String(&letters[0], len(letters))
	answers(t, "Create", f.Create(name, []byte("abc")), api.OK)
	answers(t, "WriteAt", f.WriteAt(name, 0, []byte("x")), api.OK)
	scribble(letters)
	holds(t, f, files{"name": "xbc"}, 2)
	l1, l2 := f.List(), f.List()
	if unsafe.StringData(l1[0]) == unsafe.StringData(l2[0]) {
		t.Error("List shares the memory of a name with itself")
	}
	letters = []byte("name")
	answers(t, "Remove", f.Remove(unsafe.String(&letters[0], len(letters))), api.OK)
	scribble(letters)
	f.Crash(1, 0)
	holds(t, f, files{"name": "abc"}, 0)
}

// W7
func TestResultsNeverChange(t *testing.T) {
	f := makeFS(t, 40, create("a", "0123456789"), create("b", "abc"), sync())
	b, _ := f.Read("a", 1, 8)
	l := f.List()
	for _, s := range []step{write("a", 0, "##########"), create("0", "x"), remove("b"), crash(1, 0), write("a", 3, "?"), sync(), remove("a"), create("a", "##########"), crash(0, 0), remove("a"), sync()} {
		answers(t, s.String(), s.on(f), api.OK)
		if string(b) != "12345678" || !slices.Equal(l, []string{"a", "b"}) {
			t.Fatalf("%v: results have become %q, %q", s, b, l)
		}
	}
}

// What was synced, and what was there ahead of the crash's first operation undone, stays.
func TestCrashUndoesNothingThatWasSynced(t *testing.T) {
	f, want := makeFS(t, 4000), files{}
	for i := range 20 {
		name := strconv.Itoa(i)
		answers(t, "Create", f.Create(name, bytes.Repeat([]byte{'a'}, i)), api.OK)
		answers(t, "WriteAt", f.WriteAt(name, i/2, bytes.Repeat([]byte{'b'}, i-i/2)), api.OK)
		want[name] = strings.Repeat("a", i/2) + strings.Repeat("b", i-i/2)
		f.Sync()
		// All that is there is written over and taken away, and comes back.
		for old, data := range want {
			answers(t, "WriteAt", f.WriteAt(old, 0, bytes.Repeat([]byte{'c'}, len(data))), api.OK)
			answers(t, "Remove", f.Remove(old), api.OK)
			answers(t, "Create", f.Create(old, bytes.Repeat([]byte{'d'}, 3)), api.OK)
		}
		f.Crash(0, 0)
		holds(t, f, want, 0)
	}
}

func TestNilFS(t *testing.T) {
	var f *vfs.FS
	for _, name := range append(validNames()[:3], wrongNames()...) {
		for _, at := range []int{0, -1, 1, math.MaxInt, math.MinInt} {
			answers(t, "Create", f.Create(name), api.ErrArg)
			answers(t, "Create", f.Create(name, nil, []byte("x")), api.ErrArg)
			answers(t, "WriteAt", f.WriteAt(name, at), api.ErrArg)
			answers(t, "WriteAt", f.WriteAt(name, at, []byte("x")), api.ErrArg)
			b, err := f.Read(name, at, at)
			answers(t, "Read", err, api.ErrArg)
			n, err := f.Size(name)
			answers(t, "Size", err, api.ErrArg)
			answers(t, "Remove", f.Remove(name), api.ErrArg)
			f.Sync()
			f.Crash(at, at)
			if len(b) != 0 || n != 0 || len(f.List()) != 0 || f.Pending() != 0 || f.Used() != 0 {
				t.Error("results of a nil FS:", b, n, f.List(), f.Pending(), f.Used())
			}
		}
	}
}

// W1: an FS that New did not make does not panic.
func TestFSThatWasNotMade(t *testing.T) {
	f := &vfs.FS{}
	f.Crash(0, 0)
	f.Sync()
	holds(t, f, nil, 0)
	answers(t, "Remove", f.Remove("a"), api.ErrNone)
	answers(t, "WriteAt", f.WriteAt("a", 0), api.ErrNone)
	answers(t, "Create", f.Create("a", []byte("x")), api.ErrFull)
	answers(t, "Create", f.Create("a"), api.OK)
	holds(t, f, files{"a": ""}, 1)
	f.Crash(0, 0)
	holds(t, f, nil, 0)
}

// W8: of two copies by value, the one that is used is a file system like any other.
func TestCopyByValue(t *testing.T) {
	for _, steps := range [][]step{nil, {create("a", "abc")}, {create("a", "abc"), sync()}} {
		f, m := *makeFS(t, 20, steps...), newModel(20)
		for _, s := range append(slices.Clone(steps), create("b", "de"), write("b", 0, "xy"), remove("b")) {
			s.onModel(m)
		}
		for _, s := range []step{create("b", "de"), write("b", 0, "xy"), remove("b")} {
			answers(t, s.String(), s.on(&f), api.OK)
		}
		holds(t, &f, m.files, len(m.past))
		want := m.crashed(len(m.past)-2, 1)
		f.Crash(len(m.past)-2, 1)
		holds(t, &f, want, 0)
	}
}

func TestFileSystemsAreApart(t *testing.T) {
	f, g := makeFS(t, 10), makeFS(t, 5)
	answers(t, "Create in one", f.Create("a", []byte("0123456789")), api.OK)
	holds(t, g, nil, 0)
	answers(t, "Create in the other", g.Create("a", []byte("abcde")), api.OK)
	f.Sync()
	g.Crash(0, 0)
	holds(t, f, files{"a": "0123456789"}, 0)
	holds(t, g, nil, 0)
}

// W2: the same calls answer the same, each time.
func TestAnswersHangOnTheCallsAlone(t *testing.T) {
	var first []string
	for turn := range 5 {
		d := dice(99)
		f := makeFS(t, 50)
		var got []string
		for range 400 {
			s := d.step()
			err := s.on(f)
			got = append(got, strconv.Itoa(int(err)), strings.Join(f.List(), ","), strconv.Itoa(f.Used()), strconv.Itoa(f.Pending()))
		}
		if turn == 0 {
			first = got
		}
		if !slices.Equal(got, first) {
			t.Fatal("other answers at another time")
		}
	}
}

// The example of the chapter.
func TestExample(t *testing.T) {
	f := makeFS(t, 3, create("a", "abc"), sync(), write("a", 1, "xy"), crash(0, 1))
	if b, err := f.Read("a", 0, 3); string(b) != "axc" || err != api.OK {
		t.Errorf("got %q, error %d", b, err)
	}
}
