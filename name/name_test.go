package name_test

import (
	"math"
	"slices"
	"strings"
	"testing"
	"unsafe"

	"graticule/api"
	"graticule/name"
)

func TestGivenLimits(t *testing.T) {
	if api.MaxName != longest || api.MaxParts != most {
		t.Error("the limits are others:", api.MaxName, api.MaxParts)
	}
}

// P8.1: Is

func TestIs(t *testing.T) {
	for _, s := range []string{
		"a", "Z", "0", "_", "-", ":", "#", "%", "@", "=", "ab", "a.b", "a.b.c", "A.b.9", "servers.web-01.cpu_load",
		"_-:#%@=", "-.-", "0.0", "1.5", "-1", "true", "wsp", "a.wsp", "=.=.=", "a=b", "x:y#z%@",
	} {
		isIs(t, s, true)
	}
	for _, s := range []string{
		"", ".", "..", "...", ".a", "a.", ".a.", "..a", "a..", "a..b", "a...b", "a.b.", ".a.b", "a.b..c", "a..b.c", "..a.b",
		" ", " a", "a ", "a b", "a .b", "a. b", "/", "a/b", "/a", "a/", "a/b.c", "\x00", "a\x00", "\x00a", "a\x00b", "a.\x00",
		"\n", "a\n", "\na", "a\tb", "a,b", "a;b", "a(b)", "a{b}", "[a]", "a*", "a?", "~a", "!", "\"a\"", "'a'", "a+b", "a&b", "a|b", "a^b", "$a", "`a`", "a\\b", "<a>",
		"\x7f", "a\x7f", "\x80", "a\x80", "\xff", "a\xff", "\xc3", "ä", "aä", "äa", "a.ä", "ß", "é.é", "ſ", "\u212a", "ａ", "１", "٣", "日本", "\u00a0", "\ufffd", "\ufeffa", "a．b", "a。b",
	} {
		isIs(t, s, false)
	}
}

func TestIsOfEachByte(t *testing.T) {
	many := 0
	for c := range 256 {
		s := string([]byte{byte(c)})
		ok := strings.Contains(may, s)
		if name.Is(s) {
			many++
		}
		isIs(t, s, ok)
		dot := s == "."
		for _, x := range []string{"a" + s + "b", "." + s + ".", row("a", 10) + s + row("b", 10)} {
			isIs(t, x, x[0] != '.' && (ok || dot))
		}
		for _, x := range []string{"a" + s, s + "a", "a." + s, s + ".a", "a." + s + ".b", "a.b" + s, s + "a.b", "a" + s + s + "b", s + s,
			strings.Repeat("a", 100) + "." + strings.Repeat(s, 99), strings.Repeat(s, longest), strings.Repeat("x", longest-1) + s, s + strings.Repeat("x", longest-1)} {
			isIs(t, x, ok)
		}
	}
	if many != 69 {
		t.Error("so many bytes are names by themselves:", many)
	}
}

func TestIsOfLongTexts(t *testing.T) {
	for n := 1; n <= 3*longest; n++ {
		isIs(t, strings.Repeat("a", n), n <= longest)
		isIs(t, strings.Repeat(".", n), false)
		isIs(t, strings.Repeat("a", n)+".", false)
		isIs(t, "."+strings.Repeat("a", n), false)
		isIs(t, "b."+strings.Repeat("a", n), n+2 <= longest)
		isIs(t, strings.Repeat("a", n)+".b", n+2 <= longest)
		isIs(t, row("a", most-1)+"."+strings.Repeat("a", n), 2*most-2+n <= longest)
		isIs(t, strings.Repeat("ä", n), false)
	}
	// A length in bytes that is shorter in letters, or that a smaller integer would take round to a short one.
	for _, n := range []int{256, 257, 300, 455, 456, 457, 512, 65535, 65536, 65537, 65736, 1 << 20} {
		isIs(t, strings.Repeat("a", n), false)
		isIs(t, strings.Repeat("a.", n)+"a", false)
	}
}

func TestIsOfManyParts(t *testing.T) {
	for n := 1; n <= 4*most; n++ {
		isIs(t, row("a", n), n <= most)
		isIs(t, row("=0", n), n <= most)
		isIs(t, row("a", n)+".", false)
		isIs(t, "."+row("a", n), false)
		isIs(t, row("a", n)+"..a", false)
		isIs(t, row("", n), false)
	}
	full := row(strings.Repeat("p", 9), most) // 20 parts and 19 dots: 199 bytes
	isIs(t, full, true)
	isIs(t, full+"p", true)
	isIs(t, "p"+full, true)
	isIs(t, full+"pp", false)
	isIs(t, full+".", false)
	isIs(t, full[:len(full)-1]+".p", false)
	isIs(t, full[2:]+".p", false)
	for _, n := range []int{255, 256, 257, 256 + most, 256 + most + 1, 65536 + most} {
		isIs(t, row("a", n), false)
	}
}

// P8.1: Parts

func TestParts(t *testing.T) {
	partsAre(t, "", "")
	partsAre(t, "a", "a")
	partsAre(t, "abc", "abc")
	partsAre(t, ".", "", "")
	partsAre(t, "..", "", "", "")
	partsAre(t, "...", "", "", "", "")
	partsAre(t, "a.b", "a", "b")
	partsAre(t, "a.b.c", "a", "b", "c")
	partsAre(t, ".a", "", "a")
	partsAre(t, "a.", "a", "")
	partsAre(t, ".a.", "", "a", "")
	partsAre(t, "a..b", "a", "", "b")
	partsAre(t, "a...b", "a", "", "", "b")
	partsAre(t, "one.two.three", "one", "two", "three")
	// also of what is no name
	partsAre(t, "a/b", "a/b")
	partsAre(t, "a/b.c d", "a/b", "c d")
	partsAre(t, " . ", " ", " ")
	partsAre(t, "\x00.\xff.ä", "\x00", "\xff", "ä")
	partsAre(t, "\xc3.\xa4", "\xc3", "\xa4")
	partsAre(t, "{a.b}[.]", "{a", "b}[", "]")
	partsAre(t, "a．b", "a．b")
	partsAre(t, "f(a.b,2.5)", "f(a", "b,2", "5)")
}

func TestPartsOfManyParts(t *testing.T) {
	for _, n := range []int{1, most - 1, most, most + 1, 255, 256, 257, 1000, 1 << 16, 1 << 20} {
		partsAre(t, row("", n), make([]string, n)...)
		l := slices.Repeat([]string{"ab"}, n)
		partsAre(t, row("ab", n), l...)
	}
	long := strings.Repeat("x", 1<<20)
	partsAre(t, long, long)
	partsAre(t, long+"."+long, long, long)
}

// P8.1: Join

func TestJoin(t *testing.T) {
	joinIs(t, "")
	joinIs(t, "", []string{}...)
	joinIs(t, "", "")
	joinIs(t, "a", "a")
	joinIs(t, "abc", "abc")
	joinIs(t, "a.b", "a", "b")
	joinIs(t, "b.a", "b", "a")
	joinIs(t, "a.b.c", "a", "b", "c")
	joinIs(t, "a.a.a", "a", "a", "a")
	// empty parts
	joinIs(t, ".", "", "")
	joinIs(t, "..", "", "", "")
	joinIs(t, ".a", "", "a")
	joinIs(t, "a.", "a", "")
	joinIs(t, "a..b", "a", "", "b")
	joinIs(t, "..a..", "", "", "a", "", "")
	// parts that hold dots themselves
	joinIs(t, "a.b", "a.b")
	joinIs(t, "a.b.c", "a.b", "c")
	joinIs(t, "a.b.c", "a", "b.c")
	joinIs(t, "...", ".", ".")
	joinIs(t, ".", ".")
	joinIs(t, "..", "..")
	joinIs(t, "a..b", "a.", "b")
	joinIs(t, "a...b", "a.", ".b")
	// and what is no part of a name
	joinIs(t, "/. .\x00.\xff", "/", " ", "\x00", "\xff")
	joinIs(t, "\xc3.\xa4", "\xc3", "\xa4")
	if s := name.Join("x", "y"); s != "x.y" {
		t.Error("Join of arguments:", s)
	}
}

func TestJoinOfMany(t *testing.T) {
	for _, n := range []int{1, most, most + 1, longest, 256, 257, 1 << 16, 1 << 20} {
		joinIs(t, row("", n), make([]string, n)...)
		joinIs(t, row("ab", n), slices.Repeat([]string{"ab"}, n)...)
	}
	long := strings.Repeat("x", 1<<20)
	joinIs(t, long+"."+long, long, long)
}

// P8.2: File

func TestFile(t *testing.T) {
	for _, x := range [][2]string{
		{"a", "a.wsp"}, {"a.b", "a/b.wsp"}, {"a.b.c", "a/b/c.wsp"}, {"servers.web-01.cpu_load", "servers/web-01/cpu_load.wsp"},
		{"wsp", "wsp.wsp"}, {"a.wsp", "a/wsp.wsp"}, {"a.wsp.wsp", "a/wsp/wsp.wsp"}, {"_-:#%@=", "_-:#%@=.wsp"},
		{row("a", most), strings.Repeat("a/", most-1) + "a.wsp"}, {strings.Repeat("a", longest), strings.Repeat("a", longest) + ".wsp"},
		// no names
		{"", ".wsp"}, {".", "/.wsp"}, {"..", "//.wsp"}, {".a", "/a.wsp"}, {"a.", "a/.wsp"}, {"a..b", "a//b.wsp"}, {".wsp", "/wsp.wsp"},
		{"a/b", "a/b.wsp"}, {"a/b.c", "a/b/c.wsp"}, {"/", "/.wsp"}, {" ", " .wsp"}, {"\x00.\xff", "\x00/\xff.wsp"}, {"ä.ö", "ä/ö.wsp"}, {"\xc3.\xa4", "\xc3/\xa4.wsp"},
		{row("a", most+1), strings.Repeat("a/", most) + "a.wsp"}, {strings.Repeat("a", longest+1), strings.Repeat("a", longest+1) + ".wsp"},
		{strings.Repeat(".", 1<<20), strings.Repeat("/", 1<<20) + ".wsp"},
	} {
		fileIs(t, x[0], x[1])
	}
}

// P8.2: Of

func TestOf(t *testing.T) {
	for _, x := range [][2]string{
		{"a.wsp", "a"}, {"a/b.wsp", "a.b"}, {"a/b/c.wsp", "a.b.c"}, {"wsp.wsp", "wsp"}, {"a/wsp.wsp", "a.wsp"}, {"_-:#%@=.wsp", "_-:#%@="}, {"0/9.wsp", "0.9"},
		{strings.Repeat("a/", most-1) + "a.wsp", row("a", most)}, {strings.Repeat("a", longest) + ".wsp", strings.Repeat("a", longest)},
		{strings.Repeat("a", longest-2) + "/b.wsp", strings.Repeat("a", longest-2) + ".b"},
	} {
		ofIs(t, x[0], x[1], true)
	}
}

func TestOfOfWhatIsNoFileOfAName(t *testing.T) {
	for _, file := range []string{
		// without the ending, or with a piece of it alone
		"", "a", "a/b", "a.b", "wsp", "awsp", "a/wsp", "w", "p", "a.ws", "a.wsp ", " a.wsp", "a.wspp", "a.wsp.", "a.wsp/", "a.wsp/b", "a.Wsp", "a.WSP", "a.wsq", "a/b.txt", "a.w", "a.", "a.wsp\x00", "a.wsp\n",
		"sp", ".ws", ".w", ".", "wsp.", "asp", "a,wsp", "a/wsp.ws", ".wspa", "wsp.a", "/wsp",
		// the ending alone
		".wsp", ".wsp.wsp", "/.wsp", "//.wsp", "///.wsp",
		// a dot ahead of the ending
		"a.b.wsp", "a.wsp.wsp", "a/b.c.wsp", "a.b/c.wsp", "a..wsp", "..wsp", ".a.wsp", "a./b.wsp", "a/.b.wsp", "a/..wsp", "../a.wsp", "./a.wsp",
		// empty parts
		"/a.wsp", "a/.wsp", "a//b.wsp", "a///b.wsp", "//a.wsp", "a//.wsp", "/a/b.wsp", "a/b/.wsp", "a/b//c.wsp",
		// bytes that no name holds
		" .wsp", "a b.wsp", "a\x00.wsp", "\x00.wsp", "a\\b.wsp", "a*.wsp", "ä.wsp", "a/\xff.wsp", "a/\x80b.wsp", "a~.wsp", "a,b.wsp", "a/b c/d.wsp",
		// too long, or too many parts
		strings.Repeat("a", longest+1) + ".wsp", strings.Repeat("a", longest-1) + "/b.wsp", "b/" + strings.Repeat("a", longest-1) + ".wsp", strings.Repeat("a", longest+256) + ".wsp",
		strings.Repeat("a/", most) + "a.wsp", strings.Repeat("a/", 255) + "a.wsp", strings.Repeat("a/", 256+most-1) + "a.wsp", strings.Repeat("/", 1<<20) + ".wsp", strings.Repeat("a/", 1<<20) + "a.wsp",
		strings.Repeat("a", 1<<20) + ".wsp", strings.Repeat(".wsp", 1<<18),
	} {
		ofIs(t, file, "", false)
	}
}

func TestOfOfEachByte(t *testing.T) {
	for c := range 256 {
		s := string([]byte{byte(c)})
		for _, stem := range []string{s, s + "a", "a" + s, "a/" + s, "a/" + s + "/b", "a/b" + s} {
			want := strings.ReplaceAll(stem, "/", ".")
			ok := strings.Contains(may, s)
			if !ok {
				want = ""
			}
			ofIs(t, stem+".wsp", want, ok)
		}
		ok := strings.Contains(may, s)
		switch {
		case s == "/":
			ofIs(t, "a"+s+"b.wsp", "a.b", true)
		case ok:
			ofIs(t, "a"+s+"b.wsp", "a"+s+"b", true)
		default:
			ofIs(t, "a"+s+"b.wsp", "", false)
		}
		// another byte in a place of the ending
		for i := range 4 {
			end := []byte(".wsp")
			end[i] = byte(c)
			has := string(end) == ".wsp"
			want := ""
			if has {
				want = "a.b"
			}
			ofIs(t, "a/b"+string(end), want, has)
		}
	}
}

// The name of a file is the one whose file it is, among all names of a kind and for all files of a kind.
func TestOfIsTheWayBack(t *testing.T) {
	letters := []string{"a", "-", ".", "/", " ", "w"}
	names := map[string]string{}
	for _, s := range textsOf(letters, 5) {
		if isName(s) {
			names[fileOf(s)] = s
		}
	}
	for _, stem := range textsOf(letters, 5) {
		want, ok := names[stem+".wsp"]
		ofIs(t, stem+".wsp", want, ok)
	}
	// Files of which no letter of the ending is sure.
	for _, file := range textsOf([]string{"a", ".", "/", "w", "s", "p"}, 6) {
		want, ok := nameOf(file)
		ofIs(t, file, want, ok)
	}
	d := &dice{8}
	for _, s := range d.names(500) {
		file := name.File(s)
		fileIs(t, s, fileOf(s))
		ofIs(t, file, s, true)
	}
}

// P8.2: Node

func TestNode(t *testing.T) {
	for _, x := range []struct {
		s    string
		i    int
		want string
	}{
		{"a.b.c", 0, "a"}, {"a.b.c", 1, "b"}, {"a.b.c", 2, "c"}, {"a.b.c", 3, ""}, {"a.b.c", 4, ""},
		{"a.b.c", -1, "c"}, {"a.b.c", -2, "b"}, {"a.b.c", -3, "a"}, {"a.b.c", -4, ""}, {"a.b.c", -5, ""}, {"a.b.c", -6, ""},
		{"abc", 0, "abc"}, {"abc", 1, ""}, {"abc", -1, "abc"}, {"abc", -2, ""},
		{"one.two", 0, "one"}, {"one.two", 1, "two"}, {"one.two", -1, "two"}, {"one.two", -2, "one"}, {"one.two", 2, ""}, {"one.two", -3, ""},
		{"", 0, ""}, {"", 1, ""}, {"", -1, ""}, {"", -2, ""}, {".", 0, ""}, {".", 1, ""}, {".", 2, ""}, {".", -1, ""}, {".", -2, ""}, {".", -3, ""},
		{".a", 0, ""}, {".a", 1, "a"}, {".a", -1, "a"}, {".a", -2, ""}, {"a.", 0, "a"}, {"a.", 1, ""}, {"a.", -1, ""}, {"a.", -2, "a"},
		{"a..b", 0, "a"}, {"a..b", 1, ""}, {"a..b", 2, "b"}, {"a..b", 3, ""}, {"a..b", -1, "b"}, {"a..b", -2, ""}, {"a..b", -3, "a"},
		{"a/b. \xff", 0, "a/b"}, {"a/b. \xff", 1, " \xff"}, {"a/b. \xff", -1, " \xff"}, {"\xc3.\xa4", -1, "\xa4"},
	} {
		nodeIs(t, x.s, x.i, x.want)
	}
}

func TestNodeFarOutside(t *testing.T) {
	far := []int{math.MaxInt, math.MaxInt - 1, math.MinInt, math.MinInt + 1, math.MinInt + 2, math.MinInt + 3, 1 << 32, 1<<32 + 1, -1 << 32, -1<<32 - 1, 1<<62 + 1, -1 << 62, 256, 257, -255, -256, 65536, -65535}
	for _, s := range []string{"", "a", "a.b", "a.b.c", ".", "..", row("a", most), strings.Repeat("a", longest)} {
		for _, i := range far {
			nodeIs(t, s, i, "")
		}
	}
}

func TestNodeOfManyParts(t *testing.T) {
	for _, n := range []int{most, most + 1, 300} {
		var b strings.Builder
		for i := range n {
			if i > 0 {
				b.WriteByte('.')
			}
			b.WriteString(strings.Repeat("x", i))
		}
		s := b.String()
		for i := range n {
			nodeIs(t, s, i, strings.Repeat("x", i))
			nodeIs(t, s, i-n, strings.Repeat("x", i))
		}
		for _, i := range []int{n, n + 1, -n - 1, -n - 2} {
			nodeIs(t, s, i, "")
		}
	}
	dots := strings.Repeat(".", 1<<20) + "z"
	nodeIs(t, dots, 1<<20, "z")
	nodeIs(t, dots, 1<<20-1, "")
	nodeIs(t, dots, 1<<20+1, "")
	nodeIs(t, dots, -1, "z")
	nodeIs(t, dots, -1<<20-1, "")
	nodeIs(t, "z"+dots, -1<<20-1, "z")
	nodeIs(t, "z"+dots, 0, "z")
}

// P8.3 and all of it

func TestAllShortTexts(t *testing.T) {
	for _, s := range textsOf([]string{"a", "Z", ".", "/", " ", "\x00", "\xff", "="}, 5) {
		holds(t, s)
	}
	for _, s := range textsOf([]string{"b", "."}, 12) {
		holds(t, s)
	}
}

func TestScatteredTexts(t *testing.T) {
	d := &dice{88}
	every := make([]byte, 256)
	for i := range every {
		every[i] = byte(i)
	}
	for range 2000 {
		holds(t, d.dotted(1+d.upTo(longest+20), 1+d.upTo(most+5)))
		holds(t, d.text(string(every), d.upTo(40)))
		holds(t, d.text("..../ab_\xc3\xa4", d.upTo(60)))
	}
	for _, s := range d.names(500) {
		isIs(t, s, true)
		holds(t, s)
	}
}

func TestAllTextsOfThreeBytesNearADot(t *testing.T) {
	for a := range 256 {
		for b := range 256 {
			c, e := string([]byte{byte(a)}), string([]byte{byte(b)})
			s := c + e
			isIs(t, s, isName(s))
			s = c + "." + e
			isIs(t, s, isName(s))
			joinIs(t, s, name.Parts(s)...)
			joinIs(t, s, c, e)
		}
	}
}

func TestJoinOfParts(t *testing.T) {
	for _, s := range []string{"", ".", "..", "a", "a.b", ".a", "a.", "a..b", "\x00.\xff", "ä.\xc3.\xa4", "a/b.c", row("a", 500), strings.Repeat(".", 500), strings.Repeat("a", 500)} {
		joinIs(t, s, name.Parts(s)...)
	}
	// The other way round it is not: parts that hold dots come apart.
	partsAre(t, name.Join("a.b", "c"), "a", "b", "c")
	partsAre(t, name.Join(), "")
	partsAre(t, name.Join("", ""), "", "")
}

func TestExamples(t *testing.T) {
	fileIs(t, "a.b", "a/b.wsp")
	nodeIs(t, "a.b.c", -1, "c")
}

// memory: what is handed in stays, and what is handed out is new

// answers are all texts that the functions have to say about s.
func answers(s string) []string {
	l := name.Parts(s)
	l = append(l, name.Join(s), name.Join(s, s), name.Join(s, ""), name.Join("", s), name.Join(name.Parts(s)...), name.File(s))
	for _, file := range []string{s, s + ".wsp", name.File(s)} {
		of, _ := name.Of(file)
		l = append(l, of)
	}
	for _, i := range indices(s) {
		l = append(l, name.Node(s, i))
	}
	return l
}

// samples are texts of which results could be pieces.
func samples() []string {
	return []string{"a", "ab", "a.b", "abc.def.ghi", "a.b.a.b", "a..b", ".a", "a.", ".", "", "long-part-of-a-name.another_one", "no name/at all.x", "a.wsp", "abc.wsp", "a/b.wsp", "ab/cd/ef.wsp", "x/y.z",
		"\xff", "\xff.\x00", row("a", most), strings.Repeat("n", longest), row("a", 30), row("part", most)}
}

func TestResultsDependOnArgumentsAlone(t *testing.T) {
	var first [][]string
	for _, s := range samples() {
		first = append(first, answers(s))
	}
	l := samples()
	for i := len(l) - 1; i >= 0; i-- {
		if again := answers(l[i]); !slices.Equal(again, first[i]) {
			t.Errorf("of %q there was %q, and now it is %q", l[i], first[i], again)
		}
		if name.Is(l[i]) != isName(l[i]) {
			t.Errorf("Is(%q) has become another", l[i])
		}
	}
}

func TestResultsShareNoMemory(t *testing.T) {
	for _, s := range samples() {
		s, file, parts := strings.Clone(s), strings.Clone(s)+".wsp", partsOf(s)
		all := append([]string{s, file}, parts...)
		for range 2 {
			all = append(all, name.Parts(s)...)
			all = append(all, name.Join(s), name.Join(parts...), name.Join(s, s), name.File(s), name.File(""))
			for _, f := range []string{s, file} {
				of, _ := name.Of(f)
				all = append(all, of)
			}
			for _, i := range indices(s) {
				all = append(all, name.Node(s, i))
			}
		}
		for i, a := range all {
			for _, b := range all[:i] {
				if meet(a, b) {
					t.Fatalf("of %q: %q and %q share memory", s, a, b)
				}
			}
		}
	}
}

func TestRowsOfPartsShareNoMemory(t *testing.T) {
	for _, s := range samples() {
		l1, l2 := name.Parts(s), name.Parts(s)
		for _, l := range [][]string{l1, name.Parts(s)} {
			l = l[:cap(l)]
			for i := range l {
				l[i] = "spoilt"
			}
		}
		if unsafe.SliceData(l1) == unsafe.SliceData(l2) || !slices.Equal(l2, partsOf(s)) {
			t.Errorf("two results of Parts(%q) share memory: %q", s, l2)
		}
		partsAre(t, s, partsOf(s)...)
	}
}

func TestArgumentsAreNotKept(t *testing.T) {
	for _, s := range samples() {
		b := []byte(s)
		got := answers(over(b))
		if string(b) != s {
			t.Errorf("%q has become %q", s, b)
		}
		got = append(got, name.Join(over(b)))
		want := slices.Clone(got)
		for i := range want {
			want[i] = strings.Clone(want[i])
		}
		for i := range b {
			b[i] = '!'
		}
		if !slices.Equal(got, want) {
			t.Errorf("results of %q change with it: %q", s, got)
		}
		if again := answers(s); !slices.Equal(again, want[:len(again)]) {
			t.Errorf("of %q there was %q, and now it is %q", s, want, again)
		}
	}
}

func TestArgumentsOfJoinStay(t *testing.T) {
	all := []string{"a", "b", "c", "d", "e"}
	for n := range 6 {
		l := slices.Clone(all)
		s := name.Join(l[:n]...)
		if !slices.Equal(l, all) {
			t.Errorf("the arguments of Join have become %q", l)
		}
		for i := range l {
			l[i] = "spoilt"
		}
		if s != joinOf(all[:n]) {
			t.Errorf("Join of %d texts has become %q", n, s)
		}
		joinIs(t, joinOf(all[:n]), all[:n]...)
	}
}
