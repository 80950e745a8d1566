package glob_test

import (
	"slices"
	"strconv"
	"strings"
	"testing"
	"unsafe"

	"graticule/api"
	"graticule/glob"
	"graticule/name"
)

func TestGivenLimits(t *testing.T) {
	if api.MaxText != longest || api.MaxSeries != many || api.MaxParts != most || api.MaxName != longName {
		t.Error("the limits are others:", api.MaxText, api.MaxSeries, api.MaxParts, api.MaxName)
	}
}

// P9.1: what comes out

func TestExpandWithoutBraces(t *testing.T) {
	for _, s := range []string{"a", "abc", "a.b.c", "a.b-c_d:e#f%g@h=i.Z9", "*", "?", "a*", "*.*", "s?.[0-2]*", "[abc]", "[a-z][0-9]", "[-a]", "[a-]", "a.[*?].b", "[[]", "[\xff]", "[ ]", "[\x00-\xff]", "true", "1.5",
		".", "..", "a.", ".a", "a..b", ".*.", "...", strings.Repeat(".", 100), row("a", most+1), strings.Repeat("a", longName+1)} {
		expandIs(t, s, s)
	}
}

func TestExpand(t *testing.T) {
	for _, x := range []struct {
		pattern string
		want    []string
	}{
		{"a.{b,c{d,}}", []string{"a.b", "a.cd", "a.c"}},
		// one text, or an empty one
		{"{a}", []string{"a"}}, {"a{b}c", []string{"abc"}}, {"a.{b}", []string{"a.b"}}, {"{a.b}", []string{"a.b"}}, {"a{}", []string{"a"}}, {"{}a", []string{"a"}}, {"a{}{}b{}", []string{"ab"}}, {"a{{}}b", []string{"ab"}},
		{"a{,}", []string{"a", "a"}}, {"a{,,}b", []string{"ab", "ab", "ab"}}, {"a{b,}", []string{"ab", "a"}}, {"a{,b}", []string{"a", "ab"}}, {"a{b,,c}", []string{"ab", "a", "ac"}}, {"{,a}b", []string{"b", "ab"}},
		// many texts, in their own order and as often as they stand
		{"{a,b,c}", []string{"a", "b", "c"}}, {"{c,a,b}", []string{"c", "a", "b"}}, {"{b,b,a,b}", []string{"b", "b", "a", "b"}}, {"x{10,9,1}y", []string{"x10y", "x9y", "x1y"}},
		// side by side
		{"{a,b}{c,d}", []string{"ac", "ad", "bc", "bd"}}, {"{b,a}.{d,c}", []string{"b.d", "b.c", "a.d", "a.c"}}, {"x{a,b}y{c,d}z", []string{"xaycz", "xaydz", "xbycz", "xbydz"}},
		{"{a,b}{c,d,e}", []string{"ac", "ad", "ae", "bc", "bd", "be"}}, {"{a,b,c}{d,e}", []string{"ad", "ae", "bd", "be", "cd", "ce"}},
		{"{1,2}{3,4}{5,6}", []string{"135", "136", "145", "146", "235", "236", "245", "246"}}, {"{1,2}.{3}.{5,6}", []string{"1.3.5", "1.3.6", "2.3.5", "2.3.6"}},
		{"{a,}{b,}c", []string{"abc", "ac", "bc", "c"}},
		// inside one another
		{"{{a,b}}", []string{"a", "b"}}, {"{{a}}", []string{"a"}}, {"{{a,b},c}", []string{"a", "b", "c"}}, {"{a,{b,c}}", []string{"a", "b", "c"}}, {"{a,{b,c},d}", []string{"a", "b", "c", "d"}},
		{"{{a,b},{c,d}}", []string{"a", "b", "c", "d"}}, {"{a{b,c},d}e", []string{"abe", "ace", "de"}}, {"{a,b{c,d}e}f", []string{"af", "bcef", "bdef"}}, {"{a{b{c{d,e},f},g},h}", []string{"abcd", "abce", "abf", "ag", "h"}},
		{"{{a,b}{c,d},e}", []string{"ac", "ad", "bc", "bd", "e"}}, {"{{a,b}{c,d},e}{f,g}", []string{"acf", "acg", "adf", "adg", "bcf", "bcg", "bdf", "bdg", "ef", "eg"}}, {"{f,g}{e,{a,b}c}", []string{"fe", "fac", "fbc", "ge", "gac", "gbc"}},
		{"{{,a},b}c", []string{"c", "ac", "bc"}},
		// with dots, stars and classes in them
		{"{a.b,c}.d", []string{"a.b.d", "c.d"}}, {"{a.,}b", []string{"a.b", "b"}}, {"{.,a}", []string{".", "a"}}, {"a.{*,?}", []string{"a.*", "a.?"}}, {"{[a-c],[d]}x", []string{"[a-c]x", "[d]x"}}, {"{*}", []string{"*"}},
		{"a{.,}b", []string{"a.b", "ab"}}, {"{.a,b.}{.,c}", []string{".a.", ".ac", "b..", "b.c"}},
		// braces and commas count within [ ] as well
		{"[{a,b}]", []string{"[a]", "[b]"}}, {"[{a,b}c]", []string{"[ac]", "[bc]"}}, {"[a{-,b}c]", []string{"[a-c]", "[abc]"}}, {"[{a],b]}", []string{"[a]", "[b]"}},
		{"{[a],b}", []string{"[a]", "b"}}, {"[a{],]}", []string{"[a]", "[a]"}}, {"{[,[}a]", []string{"[a]", "[a]"}}, {"[{a]b,c]d}", []string{"[a]b", "[c]d"}}, {"[{a-,b}c]", []string{"[a-c]", "[bc]"}}, {"[{ ,\xff}]", []string{"[ ]", "[\xff]"}},
	} {
		expandIs(t, x.pattern, x.want...)
	}
}

// P9.1: braces, commas and length

func TestExpandOfBracesWithoutMatch(t *testing.T) {
	for _, s := range []string{
		"{", "}", ",", "}{", "{{", "}}", "{}}", "{{}", "{,", ",}", "{a", "a}", "a{", "}a", "{a,b", "a,b}", "a,b", "a,", ",a", "{a}}", "{{a}", "{a}{", "{a}}{b}", "{a},{b}", "{a},b", "a,{b}", "{a,b},", "a{b,c}d,e", "{a{b}", "a}b{c", "a.{b,c.d", "a.b,c}.d",
		"{a}{b", "{a}b}", "{{a},b", "{a,{b}", "{a,b}{c,d", "{a}.}", "a{,", "*{", "?}", ",.", ".,", "a.{b}.c,d", "{a,b}}{c", "{{a,b}},c",
		// within [ ]
		"[{]", "[}]", "[,]", "[a{]", "[}a]", "[a,b]", "[{a]", "[a}]", "[,]{a}", "{[}]}", "{[{]}", "[}{]", "[{}},]", "[a],[b]", "[[,]", "a[,", "[{-}]}",
	} {
		expandFails(t, s, api.ErrSyntax)
	}
}

func TestExpandOfLongTexts(t *testing.T) {
	for n := longest - 3; n <= longest+3; n++ {
		for _, s := range []string{strings.Repeat("a", n), strings.Repeat(".", n), strings.Repeat("*", n), "[" + strings.Repeat("x", n-2) + "]", strings.Repeat("a", n-10) + "[\xc3\xa4]" + strings.Repeat("?", 6)} {
			if n > longest {
				expandFails(t, s, api.ErrSyntax)
				continue
			}
			expandIs(t, s, s)
		}
		long := strings.Repeat("a", n-5)
		if n > longest {
			expandFails(t, "{"+long+",b,}", api.ErrSyntax)
			expandFails(t, strings.Repeat("{}", n/2)+long[:n%2]+"a", api.ErrSyntax)
			continue
		}
		expandIs(t, "{"+long+"x,b}", long+"x", "b")
		expandIs(t, strings.Repeat("{}", n/2-1)+strings.Repeat("b", n%2+1), strings.Repeat("b", n%2+1))
	}
	// A length that a smaller integer would take round to a short one, and one that is shorter in letters.
	for _, n := range []int{1 << 16, 1<<16 + 1, 1 << 20} {
		expandFails(t, strings.Repeat("a", n), api.ErrSyntax)
		expandFails(t, strings.Repeat("{a,b}", n), api.ErrSyntax)
		expandFails(t, strings.Repeat("{", n), api.ErrSyntax)
		expandFails(t, strings.Repeat("}", n), api.ErrSyntax)
		expandFails(t, strings.Repeat("{", n)+"a"+strings.Repeat("}", n), api.ErrSyntax)
	}
	expandFails(t, "["+strings.Repeat("ä", longest/2)+"]", api.ErrSyntax)
}

func TestExpandOfDeepGroups(t *testing.T) {
	for _, n := range []int{1, 2, 100, 2000, 2047} {
		expandIs(t, strings.Repeat("{", n)+"a"+strings.Repeat("}", n), "a")
		expandFails(t, strings.Repeat("{", n)+strings.Repeat("}", n), api.ErrSyntax)
		expandFails(t, strings.Repeat("{", n)+strings.Repeat("}", n+1), api.ErrSyntax)
		expandFails(t, strings.Repeat("{", n+1)+strings.Repeat("}", n), api.ErrSyntax)
	}
	expandFails(t, strings.Repeat("{", longest), api.ErrSyntax)
	expandFails(t, strings.Repeat("{", longest/2)+strings.Repeat("}", longest/2), api.ErrSyntax)
	expandIs(t, strings.Repeat("{", longest/2-2)+"a,bc"+strings.Repeat("}", longest/2-2), "a", "bc")
	n := 511
	expandHolds(t, strings.Repeat("{a,", n)+"b"+strings.Repeat("}", n))
	expandHolds(t, strings.Repeat("{", n)+"b"+strings.Repeat(",a}", n))
}

// P9.1: how many

// numbered are n texts, the first of them with the number 0.
func numbered(n int) []string {
	l := make([]string, n)
	for i := range l {
		l[i] = "n" + strconv.Itoa(i)
	}
	return l
}

func TestExpandOfManyResults(t *testing.T) {
	for n := many - 2; n <= many; n++ {
		l := numbered(n)
		expandIs(t, "{"+strings.Join(l, ",")+"}", l...)
		expandIs(t, strings.Repeat("{", n)+"b"+strings.Repeat(",a}", n), slices.Concat([]string{"b"}, slices.Repeat([]string{"a"}, n))...)
		if n == many-1 {
			break // one more text than braces
		}
	}
	l := numbered(many)
	expandIs(t, "{"+strings.Join(l, ",")+"}", l...)
	expandIs(t, "a{"+strings.Repeat(",", many-1)+"}", slices.Repeat([]string{"a"}, many)...)
	expandIs(t, "{"+strings.Join(l[:many-1], ",")+",{{n511}}}", l...)
	expandFails(t, "{"+strings.Join(numbered(many+1), ",")+"}", api.ErrLimit)
	expandFails(t, "a{"+strings.Repeat(",", many)+"}", api.ErrLimit)
	expandFails(t, "{"+strings.Join(l, ",")+"}{,}", api.ErrLimit)
	expandFails(t, "{{"+strings.Join(l, ",")+"},x}", api.ErrLimit)
	expandFails(t, "{x,{"+strings.Join(l, ",")+"}}", api.ErrLimit)
	expandFails(t, "{"+strings.Join(l[:many-1], ",")+",{a,b}}", api.ErrLimit)
	expandFails(t, strings.Repeat("{", many)+"b"+strings.Repeat(",a}", many), api.ErrLimit)
}

// nines are all texts of nine times a or b, in order.
func nines() []string {
	var l []string
	for i := range many {
		s := strconv.FormatInt(int64(many+i), 2)
		l = append(l, strings.NewReplacer("0", "a", "1", "b").Replace(s[1:]))
	}
	return l
}

func TestExpandOfManyGroups(t *testing.T) {
	expandIs(t, strings.Repeat("{a,b}", 9), nines()...)
	expandFails(t, strings.Repeat("{a,b}", 10), api.ErrLimit)
	for _, x := range []struct {
		pattern string
		count   int
	}{
		{"{a,b}{" + strings.Repeat("c,", 255) + "c}", 512}, {"{a,b}{" + strings.Repeat("c,", 256) + "c}", 514}, {"{a,b,c}{" + strings.Repeat("c,", 169) + "c}", 510}, {"{a,b,c}{" + strings.Repeat("c,", 170) + "c}", 513},
		{"{" + strings.Repeat("c,", 21) + "c}{" + strings.Repeat("c,", 22) + "c}", 506}, {"{" + strings.Repeat("c,", 22) + "c}{" + strings.Repeat("c,", 22) + "c}", 529},
		{"{" + strings.Repeat("{a,b}", 8) + "," + strings.Repeat("{c,d}", 8) + "}", 512}, {"{" + strings.Repeat("{a,b}", 8) + ",x," + strings.Repeat("{c,d}", 8) + "}", 513}, {"{" + strings.Repeat("{a,b}", 8) + ",{}" + strings.Repeat("{c,d}", 8) + "}x", 512},
		{"{{a,b},c}{d,e{f,g}}{{h,i},j}", 27}, {strings.Repeat("{{a,b},{c,d}}", 4) + "{x,y}", 512}, {strings.Repeat("{{a,b},{c,d}}", 4) + "{x,y,z}", 768},
	} {
		all, err := glob.Expand(x.pattern)
		if want, fails := min(x.count, many+1)%(many+1), x.count > many; len(all) != want || fails != (err == api.ErrLimit) {
			t.Errorf("Expand(%q) are %d, %d, not %d", short(x.pattern), len(all), err, x.count)
		}
		expandHolds(t, x.pattern)
	}
}

// The number of results is far beyond all integers, and may come round to a small one.
func TestExpandOfVeryManyResults(t *testing.T) {
	inGoodTime(t, func() {
		for _, n := range []int{11, 16, 31, 32, 33, 62, 63, 64, 65, 128, 500, 819} {
			expandFails(t, strings.Repeat("{a,b}", n), api.ErrLimit)
			expandFails(t, "{"+strings.Repeat("{a,b}", n-1)+",c}", api.ErrLimit)
		}
		for _, n := range []int{8, 16, 32, 64, 256, 455} {
			expandFails(t, strings.Repeat("{a,b,c,d}", n), api.ErrLimit)
			expandFails(t, strings.Repeat("{a,,,}", n), api.ErrLimit)
		}
		for _, n := range []int{10, 32, 62, 63, 64, 65, 500, 680} { // each level is twice the one inside
			expandFails(t, strings.Repeat("{a{,}", n)+strings.Repeat("}", n), api.ErrLimit)
		}
		for _, n := range []int{513, 600, 900, 1000} { // each level has one text more
			expandFails(t, strings.Repeat("{a,", n)+strings.Repeat("}", n), api.ErrLimit)
			expandFails(t, strings.Repeat("{", n)+strings.Repeat(",a}", n), api.ErrLimit)
		}
		// 65536 texts a group: four of them side by side are 2^64.
		group := "{" + strings.Repeat("{a,b}{a,b}", 8) + "}"
		for n := 1; n <= 8; n++ {
			expandFails(t, strings.Repeat(group, n), api.ErrLimit)
		}
	})
}

func TestExpandOfManyLongResults(t *testing.T) {
	inGoodTime(t, func() {
		for _, x := range [][2]string{{"a", "a"}, {"a{}", "a"}, {"{}", ""}, {"{a}", "a"}, {".", "."}, {"*", "*"}, {"[x]", "[x]"}, {"[{x}{}]", "[x]"}, {"{{{a}b}}", "ab"}} {
			s := strings.Repeat("{a,b}", 9)
			n := (longest - len(s)) / len(x[0])
			ahead, behind := nines(), nines()
			for i := range many {
				ahead[i] += strings.Repeat(x[1], n)
				behind[i] = strings.Repeat(x[1], n) + behind[i]
			}
			expandIs(t, s+strings.Repeat(x[0], n), ahead...)
			expandIs(t, strings.Repeat(x[0], n)+s, behind...)
		}
		for _, n := range []int{100, 600, 1300} { // what is long lies deep
			s := strings.Repeat("{,}", 9)
			expandIs(t, strings.Repeat("{a", n)+s+"b"+strings.Repeat("}", n), slices.Repeat([]string{strings.Repeat("a", n) + "b"}, many)...)
			expandIs(t, strings.Repeat("{", n)+s+"b"+strings.Repeat("c}", n), slices.Repeat([]string{"b" + strings.Repeat("c", n)}, many)...)
		}
	})
}

// P9.1: what may come out

func TestExpandOfEmptyResults(t *testing.T) {
	for _, s := range []string{"", "{}", "{,}", "{{}}", "{}{}", "{a,}", "{,a}", "{a,,b}", "{{},a}", "{a,}{b,}", "{a,{}}", "{,}{,}", strings.Repeat("{,}", 9), "{{,a},b}"} {
		expandFails(t, s, api.ErrSyntax)
	}
	expandIs(t, "{a,b}{}{,}", "a", "a", "b", "b")
}

func TestExpandOfWhatIsNoSimplePattern(t *testing.T) {
	wrong := []string{"[", "]", "[]", "[a", "a]", "[]a]", "[a]]", "[[]]", "[b-a]", "[ab-a]", "[a-cz-y]", "[a--]", "[\xff-\xfe]", "a[", "[a-", "[-", "[[", "][", "[a][", "[]]", "[\x01-\x00]",
		" ", "/", "\\", "~", "!", "+", "$", "^", "|", "(", ")", "&", ";", "\"", "'", "<", ">", "`", "\x00", "\n", "\x7f", "\x80", "\xff", "ä", "a b", "a/b", "a\x00"}
	for _, s := range wrong {
		for _, pattern := range []string{s, "x" + s, s + "x", "x." + s, s + ".x", "x." + s + ".y", "*" + s, s + "?", "{" + s + "}", "{a," + s + "}", "{" + s + ",a}", "{a,b" + s + ",c}", "{a,b}.{c," + s + "}", "." + s, s + "."} {
			expandFails(t, pattern, api.ErrSyntax)
		}
	}
	// a dot within [ ]
	for _, s := range []string{"[.]", "[a.]", "[.a]", "[a.b]", "[a-.]", "[.-z]", "[--.]", "a.[b.c].d", "{[.],a}", "[{.,a}]", "[a{.}b]", "x[.]y", "[a].[.]"} {
		expandFails(t, s, api.ErrSyntax)
	}
	// Only the texts that come out count, not those that are written.
	expandIs(t, "[{a]}", "[a]")
	expandIs(t, "{[}a]", "[a]")
	expandIs(t, "[{a].[,b}c]", "[a].[c]", "[bc]")
	for _, s := range []string{"[{]a]}", "[a{].[}]", "{[a],[b}]", "{[a,x[b]}]", "[{a,b]}", "[{a].[,b].}c]"} {
		expandFails(t, s, api.ErrSyntax)
	}
}

func TestExpandOfEachByte(t *testing.T) {
	for c := range 256 {
		s := bytesOf(c)
		for _, x := range []string{s, "a" + s, s + "a", "a." + s + ".b", "{a," + s + "}", "{" + s + "}", "[" + s + "]", "[a" + s + "]", "[a-" + s + "]", "[" + s + "-z]", "[{" + s + ",a}]"} {
			holds(t, x)
		}
		ok := strings.Contains(may+".*?", s)
		if ok {
			expandIs(t, s, s)
			expandIs(t, "{a,b"+s+"}", "a", "b"+s)
		} else {
			expandFails(t, s, api.ErrSyntax)
		}
	}
}

// P9.1: which error is first

func TestWhichErrorOfExpandIsFirst(t *testing.T) {
	tooMany := strings.Repeat("{a,b}", 10)
	// Length, braces and commas are ahead of the number.
	for _, s := range []string{tooMany + "{", tooMany + "}", tooMany + ",", "}" + tooMany, "{" + tooMany, "," + tooMany, tooMany + "[,]", tooMany + "[{]", strings.Repeat("{a,b}", 820), tooMany + strings.Repeat("a", longest-49), "}" + strings.Repeat("{a,b}", 819)} {
		expandFails(t, s, api.ErrSyntax)
	}
	// The number is ahead of what comes out.
	for _, s := range []string{tooMany + "[", "]" + tooMany, tooMany + " ", tooMany + "[]", tooMany + "[b-a]", tooMany + "[.]", tooMany + "ä", strings.Repeat("{,}", 10), "{" + strings.Repeat(",", many) + "}", strings.Repeat("{a,[}", 10), "[" + tooMany, tooMany + "\x00",
		tooMany + strings.Repeat("/", longest-50)} {
		expandFails(t, s, api.ErrLimit)
	}
	// Just as many as may be: then it is what comes out.
	enough := strings.Repeat("{a,b}", 9)
	for _, s := range []string{enough + "[", "]" + enough, enough + " ", strings.Repeat("{,}", 9), enough + "{[]}", "{" + strings.Repeat(",", many-1) + "}", "{a" + strings.Repeat(",a", many-2) + ",}", "{" + strings.Repeat(",a", many-1) + "}", "{a" + strings.Repeat(",a", many-2) + ",/}"} {
		expandFails(t, s, api.ErrSyntax)
	}
}

func TestExpandOfAllShortTexts(t *testing.T) {
	for _, s := range textsOf("a{,}", 8) {
		expandHolds(t, s)
	}
	for _, s := range textsOf("a{,}.[]", 5) {
		expandHolds(t, s)
	}
	for _, s := range textsOf("b[]-*", 5) {
		expandHolds(t, s)
	}
}

func TestExpandOfScatteredTexts(t *testing.T) {
	d := &dice{9}
	for range 20000 {
		expandHolds(t, d.choices(4))
	}
	for range 5000 {
		expandHolds(t, d.text("{{,,}}aab.*[-]", d.upTo(40)))
	}
}

// P9.2: Match

func TestMatch(t *testing.T) {
	for _, x := range []struct{ pattern, yes, no string }{
		{"", "", "a| |.|*|\x00"},
		{"a", "a", "|b|A|aa|ab|ba| a|a |\xe1"}, {"abc", "abc", "|a|ab|abcd|xabc|abd|acb|ABC"}, {"-", "-", "|a|--"}, {"_-:#%@=", "_-:#%@=", "|_-:#%@|_-:#%@=="},
		// stars
		{"*", "|a|ab|abc|*| |.|a.b|/|\x00|\xff|\xc3\xa4", ""}, {"**", "|a|ab|**", ""}, {"***", "|a|ab|abcd", ""},
		{"a*", "a|ab|abc|aa|a*|a.b|a/|a\x00|a\xff", "|b|ba|A| a"}, {"*a", "a|aa|ba|bca|aba|.a|\x00a", "|b|ab|a |baab"}, {"a*b", "ab|aab|abb|axb|axxb|abab|a.b|a*b", "|a|b|ba|abc|xab|axbx"},
		{"*a*", "a|ab|ba|bab|aaa|.a.", "|b|bb|A"}, {"a**b", "ab|axb|axyb", "|a|b|abc"}, {"**a**", "a|xay|aa", "|x"}, {"*a*b*", "ab|xaxbx|aabb|bab|abab", "|a|b|ba|bba"},
		{"*ab", "ab|aab|abab|xaab", "|a|b|aba|abb"}, {"*aab", "aab|aaab|aabaab|abaaab", "|ab|aa|aaba"}, {"*ab*ba*", "abba|xabxbax|ababa", "|aba|baab|ab"}, {"*a*a", "aa|aaa|xaya", "|a|aab"}, {"a*a", "aa|aba|aaa", "|a|aab|baa"}, {"a*a*a", "aaa|abaca|aaaa", "|aa|aba"},
		{"a*bc*d", "abcd|abbcd|abcbcd|axbcxd|abcdd", "|abd|acbd|abcde|abxcd"},
		// one byte, whichever it is
		{"?", "a|b|?|*|.|/| |\x00|\x7f|\x80|\xff", "|aa|ab|\xc3\xa4"}, {"??", "ab|aa|..|\xc3\xa4", "|a|abc"}, {"a?", "ab|aa|a.|a\xff", "|a|abc|ba"}, {"?a", "aa|ba|.a", "|a|ab|bba"}, {"a?c", "abc|acc|a.c", "|ac|abbc|abd"},
		{"*?", "a|ab|abc", ""}, {"?*", "a|ab|abc", ""}, {"?*?", "ab|abc|abcd", "|a"}, {"*?*", "a|ab", ""}, {"*a?", "ab|aa|xab|aab", "|a|ba|abc"}, {"?*a", "aa|ba|bca", "|a|ab"}, {"*??*", "ab|abc", "|a"},
		// classes
		{"[a]", "a", "|b|A|aa|[|]|[a]"}, {"[abc]", "a|b|c", "|d|ab|abc|`"}, {"[aa]", "a", "|b|aa"}, {"[a]b", "ab", "|a|b|aa"}, {"[ab][cd]", "ac|ad|bc|bd", "|a|ab|ca|acd"}, {"x[ab]y", "xay|xby", "|xy|xcy|xaby"},
		{"[b-d]", "b|c|d", "|a|e|B|-|b-d"}, {"[b-b]", "b", "|a|c|-"}, {"[b-dx-z]", "b|d|x|y|z", "|a|e|w|{|-"}, {"[ab-dx]", "a|b|c|d|x", "|e|-|y"}, {"[0-9]", "0|5|9", "|/|:|10"}, {"[A-z]", "A|Z|a|z|_|[|\\|]|^|`", "|@|{"},
		// the minus by itself
		{"[-]", "-", "|a|]"}, {"[-a]", "-|a", "|b|.|`"}, {"[a-]", "a|-", "|b|]|`"}, {"[--]", "-", "|,|.|--"}, {"[---]", "-", "|,|."}, {"[----]", "-", "|,|."}, {"[-a-c]", "-|a|b|c", "|d|."}, {"[a-c-]", "a|b|c|-", "|d|."},
		{"[a-c-e]", "a|b|c|-|e", "|d|f|."}, {"[a-c-e-g]", "a|b|c|-|e|f|g", "|d|h|."}, {"[--0]", "-|.|/|0", "|,|1"}, {"[+--]", "+|,|-", "|*|."}, {"[a-cx-]", "a|c|x|-", "|d|y"}, {"[%--a]", "%|&|'|(|)|*|+|,|-|a", "|$|.|b"},
		{"[a-b--c]", "a|b|-|.|/|0|9|A|Z|_|c", "|,|d"}, {"[a-b-]", "a|b|-", "|c|."},
		// what a class may hold besides
		{"[[]", "[", "|]|a"}, {"[[a]", "[|a", "|]|b"}, {"[[-a]", "[|\\|]|^|_|`|a", "|Z|b|-"}, {"[*]", "*", "|a|**"}, {"[?]", "?", "|a"}, {"[*-]x", "*x|-x", "|x|ax"}, {"[^a]", "^|a", "|b"}, {"[!a]", "!|a", "|b"}, {"[\\]", "\\", "|]|a"}, {"[.]", ".", "|a|"}, {"[/. ]", ".|/| ", "|a"},
		{"[{,}]", "{|,|}", "|a"}, {"[\x00]", "\x00", "|a|0"}, {"[\x00-\x02]", "\x00|\x01|\x02", "|\x03|\xff"}, {"[\x80-\xff]", "\x80|\xc3|\xff", "|\x7f|a|\xc3\xa4"}, {"[\xfe-\xff]", "\xfe|\xff", "|\xfd|\x00"}, {"[\x00-\xff]", "\x00|a|\x7f|\x80|\xff|]|-", "|aa"}, {"[ä]", "\xc3|\xa4", "|ä|a|\xc4"}, {"[a\n]", "a|\n", "|n"},
		// all of them
		{"s?[0-2]*", "sv1|sx0abc|s.2|ss1", "|s1|sv|s??|sv3|sv9a|xv1"}, {"*[a-c]", "a|xb|[a-c]c|cc", "|d|ad"}, {"[a-c]*", "a|bx|c*", "|d|da"}, {"*[ab]*[cd]*", "ac|xaxcx|bd", "|ca|ab|cd"}, {"*[0-9]?", "00|a1b|12", "|1|1bc|ab"}, {"[*]*[*]", "**|*a*|***", "|*|a*|*a"}, {"*[a]b", "ab|aab|aaab", "|b|ba"},
		{"web-[0-9][0-9]*", "web-01|web-99x", "|web-1|web-x1|web01"},
	} {
		for part := range strings.SplitSeq(x.yes, "|") {
			matchIs(t, x.pattern, part, true)
			if !matchOf(x.pattern, part) {
				t.Errorf("the model doubts %q, %q", x.pattern, part)
			}
		}
		for part := range strings.SplitSeq(x.no, "|") {
			if x.no == "" {
				continue
			}
			matchIs(t, x.pattern, part, false)
			if matchOf(x.pattern, part) {
				t.Errorf("the model doubts that %q, %q don't match", x.pattern, part)
			}
		}
		if x.no != "" && x.no[0] != '|' && x.pattern != "" {
			t.Errorf("the row of %q leaves the empty text out", x.pattern)
		}
	}
	matchIs(t, "[|]", "|", true)
	matchIs(t, "*", "|", true)
	matchIs(t, "a", "|", false)
}

func TestMatchOfWhatIsNoSimplePattern(t *testing.T) {
	for _, pattern := range []string{
		"[", "]", "[]", "[a", "a]", "[]a]", "[a]]", "[[]]", "[b-a]", "[ab-a]", "[a--]", "[a-cz-y]", "[\xff-\xfe]", "[\x01-\x00]", "[a-", "[-", "[[", "*[", "[*", "?]", "a[b", "a]b", "[a][", "[a][]", "*[]*", "[]*", "*]",
		".", "a.b", "*.*", "a.", ".a", "?.", "[a].[b]", "[.].", " ", "a b", "* ", "/", "a/b", "*/", "\\", "\\*", "+", "!", "^a", "a$", "(a)", "a|b", "{", "}", ",", "{a}", "{a,b}", "a,b", "a{b", "*{a,b}", "{}",
		"\x00", "a\x00", "*\x00", "\n", "a\n", "\x7f", "\x80", "\xff", "*\xff", "ä", "*ä", "é*", "ａ", "\u212a", "a b*", "~", "&", ";", "'", "\"", "<", ">", "`", strings.Repeat("a", 500) + ".", strings.Repeat("a", longName) + " ", strings.Repeat("*", 500) + "]", strings.Repeat("a", longName) + "." + strings.Repeat("a", longName),
		strings.Repeat("a", longName-1) + ".b", strings.Repeat("a", 2*longName-1) + ".b",
	} {
		for _, part := range []string{"", "a", "b", "ab", "a.b", pattern, "*", ".", " ", "]", "[", "a]", "[a", "\xff", "abc", "x" + pattern, pattern + pattern, strings.Trim(pattern, "[]*?{}")} {
			matchIs(t, pattern, part, false)
		}
	}
}

func TestMatchOfEachByte(t *testing.T) {
	for c := range 256 {
		s := bytesOf(c)
		plain := strings.Contains(may, s)
		for e := range 256 {
			part := bytesOf(e)
			matchIs(t, s, part, plain && c == e || s == "*" || s == "?")
			matchIs(t, "x"+s, "x"+part, plain && c == e || s == "*" || s == "?")
			matchIs(t, "*"+s+"y", part+"y", plain && c == e || s == "*" || s == "?")
			matchIs(t, "["+s+"]", part, s != "]" && c == e)
			matchIs(t, "[x"+s+"]", part, s != "]" && c == e || s != "]" && part == "x")
			matchIs(t, "["+s+s+"]", part, s != "]" && c == e)
		}
		matchIs(t, "?", s, true)
		matchIs(t, "*", s, true)
		matchIs(t, "a?", "a"+s, true)
		matchIs(t, "*b", s+"b", true)
		matchIs(t, "", s, false)
		matchIs(t, s, "", s == "*")
	}
}

func TestMatchOfAllRanges(t *testing.T) {
	for low := range 256 {
		for high := range 256 {
			class := "[" + bytesOf(low) + "-" + bytesOf(high) + "]"
			ok := low <= high && low != ']' && high != ']'
			for _, c := range []int{0, 255, low - 1, low, low + 1, (low + high) / 2, high - 1, high, high + 1, '-'} {
				if c < 0 || c > 255 {
					continue
				}
				matchIs(t, class, bytesOf(c), ok && low <= c && c <= high)
				matchIs(t, "*"+class+"b", "a"+bytesOf(c)+"b", ok && low <= c && c <= high)
			}
		}
	}
	// The first ] ends a class, so that none can be listed, but one can lie within a range.
	matchIs(t, "[a-]]", "a]", false)
	matchIs(t, "[]-a]", "]", false)
	matchIs(t, "[\\-^]", "]", true)
}

func TestMatchOfAllShortClasses(t *testing.T) {
	for _, letters := range textsOf("ab-0]", 5) {
		class := "[" + letters + "]"
		places, ok := placesOf(class)
		for _, part := range []string{"", "a", "b", "-", "0", "]", ".", "1", "_", "ab", "[", "aa", "c", ","} {
			matchIs(t, class, part, ok && reachOf(places, part))
		}
	}
}

func TestMatchOfAllShortTexts(t *testing.T) {
	parts := textsOf("abc", 4)
	for _, pattern := range textsOf("*?ab", 5) {
		places, ok := placesOf(pattern)
		for _, part := range parts {
			matchIs(t, pattern, part, ok && reachOf(places, part))
		}
	}
	parts = textsOf("a-]*", 2)
	for _, pattern := range textsOf("*?[]-a", 5) {
		places, ok := placesOf(pattern)
		for _, part := range parts {
			matchIs(t, pattern, part, ok && reachOf(places, part))
		}
	}
	parts = textsOf("ab", 7)
	for _, pattern := range textsOf("*ab", 6) {
		places, ok := placesOf(pattern)
		for _, part := range parts {
			matchIs(t, pattern, part, ok && reachOf(places, part))
		}
	}
}

func TestMatchOfScatteredTexts(t *testing.T) {
	d := &dice{99}
	for range 5000 {
		pattern := d.elements(d.upTo(12))
		places, ok := placesOf(pattern)
		for range 20 {
			part := d.text("abcd-", d.upTo(16))
			matchIs(t, pattern, part, ok && reachOf(places, part))
		}
		for _, part := range []string{"", pattern, strings.ReplaceAll(pattern, "*", ""), strings.ReplaceAll(pattern, "*", "abab"), strings.ReplaceAll(strings.ReplaceAll(pattern, "?", "\x00"), "*", "")} {
			matchIs(t, pattern, part, ok && reachOf(places, part))
		}
	}
	for range 2000 {
		pattern, part := d.text("*ab", d.upTo(30)), d.text("ab", d.upTo(60))
		matchIs(t, pattern, part, matchOf(pattern, part))
	}
}

func TestMatchOfManyStarsInGoodTime(t *testing.T) {
	const n = 1 << 10
	long, same := strings.Repeat("a", 50*n), strings.Repeat("a", n)
	inGoodTime(t, func() {
		for _, x := range []struct {
			pattern, part string
			want          bool
		}{
			{strings.Repeat("*a", n), long, true}, {strings.Repeat("*a", n) + "*", long, true}, {strings.Repeat("*a", n) + "b", long, false}, {strings.Repeat("*a", n) + "*b", long, false}, {strings.Repeat("*a", n) + "*b", long + "b", true},
			{strings.Repeat("a*", n), long, true}, {strings.Repeat("a*", n) + "b", long, false}, {strings.Repeat("a*", n) + "b*", long, false}, {"b" + strings.Repeat("*a", n), long, false}, {strings.Repeat("*a", n) + "*a", same, false}, {strings.Repeat("*a", n), same, true},
			{strings.Repeat("*", n), long, true}, {strings.Repeat("*", n) + "b", long, false}, {strings.Repeat("*", 1<<20) + "a", long, true}, {strings.Repeat("*", 1<<20), "", true}, {strings.Repeat("*", 1<<20) + "b", strings.Repeat("a", 1<<20), false},
			{strings.Repeat("*?", n), long, true}, {strings.Repeat("?*", n) + "?", same, false}, {strings.Repeat("*?", n) + "b", long, false}, {strings.Repeat("*[a-c]", n) + "b", long, false}, {strings.Repeat("*[a-c]", n) + "*", long, true}, {strings.Repeat("[ab]*", n) + "[b-c]", long, false},
			{strings.Repeat("*aa", n) + "b", long, false}, {strings.Repeat("*aab", n), long, false}, {strings.Repeat("*ab", n), strings.Repeat("ab", n), true}, {strings.Repeat("*ab", n) + "*a", strings.Repeat("ab", n), false}, {strings.Repeat("*ab*", n) + "c", strings.Repeat("ab", 10*n), false},
			{strings.Repeat("*a", n/2) + "*" + strings.Repeat("a", n/2) + "b", long, false}, {"*" + strings.Repeat("a", n) + "b*", long, false}, {strings.Repeat("a", n) + "*", long, true}, {"*" + strings.Repeat("?", n), long, true}, {strings.Repeat("?", n) + "*" + strings.Repeat("?", n), long, true},
			{strings.Repeat("a", 1<<20), strings.Repeat("a", 1<<20), true}, {strings.Repeat("a", 1<<20), strings.Repeat("a", 1<<20-1), false}, {strings.Repeat("?", 1<<20), strings.Repeat("a", 1<<20), true}, {strings.Repeat("[a-]", 1<<18), strings.Repeat("a-", 1<<17), true},
			{"[" + strings.Repeat("b", 1<<20) + "]", "a", false}, {"[" + strings.Repeat("b", 1<<20) + "a]", "a", true}, {"[" + strings.Repeat("b", 1<<20), "b", false}, {strings.Repeat("[", 1<<20), "[", false}, {strings.Repeat("[", 1<<20) + "]", "[", true}, {strings.Repeat("]", 1<<20), "]", false},
		} {
			matchIs(t, x.pattern, x.part, x.want)
		}
	})
}

// P9.2: Parts

func TestParts(t *testing.T) {
	for _, s := range []string{"a", "abc", "*", "?", "[a-c]", "s?[0-2]*", "_-:#%@=", "**", "[[]", "[*]x", "[ ]", "[\xff]", "[\x00-\x01]"} {
		partsAre(t, s, s)
		partsAre(t, s+".b", s, "b")
		partsAre(t, "b."+s, "b", s)
		partsAre(t, s+"."+s+"."+s, s, s, s)
	}
	partsAre(t, "a.b", "a", "b")
	partsAre(t, "a.b.c", "a", "b", "c")
	partsAre(t, "one.*.t[a-z]o?", "one", "*", "t[a-z]o?")
	// A class takes braces and commas as any other byte.
	partsAre(t, "[{,}]", "[{,}]")
	partsAre(t, "a.[{a,b}].c", "a", "[{a,b}]", "c")
}

func TestPartsOfWhatHasNone(t *testing.T) {
	for _, s := range []string{
		// an empty part
		"", ".", "..", "...", ".a", "a.", ".a.", "a..b", "a...b", "..a", "a..", "a.b.", ".a.b", "a.b..c", "*.", ".*", "?..?", "[a]..[b]",
		// a part that is no simple pattern
		"[", "]", "[]", "[a", "a]", "[b-a]", "[a--]", "a.[", "[.a", "a.[].b", "a.b]", "[a]].b", "a.[c-b]", "a.b.[\xff-\xfe]", "[[]].a", " ", "a b", "a. .b", "a/b", "/.a", "a.\x00", "a.\xff", "ä", "a.ä.b", "\n.a", "a.b\n",
		// a dot within [ ]
		"[.]", "[a.b]", "a.[b.]", "[.a]", "[a-.]", "[--.]", "a[.]b",
		// alternatives
		"{a}", "{a,b}", "a.{b,c}", "{a,b}.c", "a,b", "{", "}", "a.,", "{}", "a{b", "{[a]}", "[a]{b}",
	} {
		partsFail(t, s)
	}
	for c := range 256 {
		s := bytesOf(c)
		for _, x := range []string{s, "a" + s, s + "a", "a." + s, s + ".a", "a." + s + ".b", "a" + s + "b", "[" + s + "]", "a.[b" + s + "]"} {
			partsHold(t, x)
		}
	}
}

func TestPartsOfManyParts(t *testing.T) {
	for n := 1; n <= 3*most; n++ {
		for _, part := range []string{"a", "*", "[a-z]?", strings.Repeat("x", longName+1)} {
			if n > most {
				partsFail(t, row(part, n))
				continue
			}
			partsAre(t, row(part, n), slices.Repeat([]string{part}, n)...)
			partsFail(t, row(part, n)+".")
			partsFail(t, "."+row(part, n))
			partsFail(t, row(part, n)+".]")
		}
	}
	for _, n := range []int{255, 256, 257, 256 + most, 65536, 65536 + most, 1 << 20} {
		partsFail(t, row("a", n))
		partsFail(t, strings.Repeat(".", n))
	}
	for _, n := range []int{longName, longName + 1, longest, longest + 1, 1 << 20} {
		long := strings.Repeat("a", n)
		partsAre(t, long, long)
		partsAre(t, long+".*"+long, long, "*"+long)
		partsFail(t, long+" ")
		partsFail(t, "b."+long+" "+long)
	}
}

func TestPartsOfAllShortTexts(t *testing.T) {
	for _, s := range textsOf("a.*[]-", 5) {
		partsHold(t, s)
	}
	for _, s := range textsOf("a{,}. ", 4) {
		partsHold(t, s)
	}
	d := &dice{999}
	for range 3000 {
		s := d.elements(d.upTo(4))
		for range d.upTo(22) {
			s += "." + d.elements(d.upTo(40)/10+d.upTo(2))
		}
		partsHold(t, s)
	}
}

// P9.2: Plain

func TestPlain(t *testing.T) {
	for _, s := range []string{"", ".", "..", "...", "a", "ab", "a.b", "a.b.c", ".a", "a.", "a..b", "_-:#%@=", "Z.9", "servers.web-01.cpu_load", "1.5", "-1", "true", row("a", most), row("a", most+1), strings.Repeat("a", longName), strings.Repeat("a", longName+1), strings.Repeat("ab", longName) + "c",
		strings.Repeat("a", longest+1), strings.Repeat(".", 1<<20), strings.Repeat("a", 1<<20), row("a", 1<<20), strings.Repeat(".", longName) + "a", row(strings.Repeat("a", 2*longName), 3)} {
		plainIs(t, s, true)
	}
	for _, s := range []string{"*", "?", "[", "]", "[a]", "{", "}", "{a}", ",", "a*", "*a", "a.*", "*.a", "a.b?", "a.[b]", "a,b", "{a,b}", "a b", " ", " a", "a ", "a/b", "\x00", "a\x00", "\n", "a\n", "\x80", "\xff", "a.\xff", "ä", "a.ä", "ａ", "\u212a", "a．b", "+", "!", "~", "\\", "a.b.c*", ". .",
		strings.Repeat("a", longName) + "*", strings.Repeat("a", longName-1) + "*", "*" + strings.Repeat("a", longName), strings.Repeat("a", 5*longName) + "?" + strings.Repeat("a", 5*longName), strings.Repeat(".", 1<<20) + "*", strings.Repeat("a", 1<<20) + "/", "/" + strings.Repeat("a", 1<<20)} {
		plainIs(t, s, false)
	}
	for c := range 256 {
		s := bytesOf(c)
		ok := strings.Contains(may+".", s)
		for _, x := range []string{s, s + s, "a" + s, s + "a", "a" + s + "b", "." + s, s + ".", "a." + s + ".b", strings.Repeat("a", longName) + s, s + strings.Repeat("a", longName), strings.Repeat(s, 3*longName)} {
			plainIs(t, x, ok)
		}
	}
}

func TestLongBytesOfNames(t *testing.T) {
	for n := longName - 2; n <= 3*longName+2; n++ {
		long := strings.Repeat("ab", n/2) + strings.Repeat("c", n%2)
		plainIs(t, long, true)
		matchIs(t, long, long, true)
		matchIs(t, long, long+"c", false)
		matchIs(t, long, long[1:], false)
		for _, i := range []int{0, 1, longName - 3, n - 2, n - 1} {
			for _, c := range []string{".", " ", "]", "\xff"} {
				s := long[:i] + c + long[i+1:]
				plainIs(t, s, c == ".")
				matchIs(t, s, s, false)
			}
		}
	}
}

// P9.3 and all of it

func TestPlainPartsMatchThemselvesAlone(t *testing.T) {
	texts := slices.Concat(textsOf("aB0", 4), textsOf("_-:#%@=", 2), []string{"a.", ".", "a b", "*", "?", "ab*", "a?", "[a]", " a", "a\x00", "aB0\xff", strings.Repeat("a", longName), strings.Repeat("a", longName+1)})
	for _, s := range texts {
		if !glob.Plain(s) || strings.Contains(s, ".") {
			continue
		}
		for _, part := range texts {
			matchIs(t, s, part, s == part)
		}
	}
	for c := range 256 {
		s := bytesOf(c)
		if name.Is(s) != strings.Contains(may, s) {
			t.Errorf("the byte %q of names is another", s)
		}
		if name.Is(s) {
			matchIs(t, s, s, true)
			expandIs(t, s, s)
			partsAre(t, s, s)
		}
	}
}

func TestAllShortTexts(t *testing.T) {
	for _, s := range textsOf("a*[]-{,}. \xff", 4) {
		holds(t, s)
	}
}

func TestScatteredTexts(t *testing.T) {
	d := &dice{9999}
	every := make([]byte, 256)
	for i := range every {
		every[i] = byte(i)
	}
	for range 3000 {
		holds(t, d.text(string(every), d.upTo(10)))
		holds(t, d.text(may+"..**??", d.upTo(60)))
		holds(t, d.text("[[]]--abc*", d.upTo(12)))
		holds(t, d.elements(d.upTo(8)))
	}
}

// What comes out of a pattern is what Parts takes, if no part is empty and they are not too many.
func TestPartsOfWhatComesOut(t *testing.T) {
	for _, pattern := range []string{"a.{b,c{d,}}", "{a,b}.{c,[d-f]}.*", "[{a,b}].x?", "{a.b,c}.d"} {
		all, err := glob.Expand(pattern)
		if err != api.OK {
			t.Errorf("Expand(%q): %d", pattern, err)
		}
		for _, s := range all {
			partsAre(t, s, dotted(s)...)
		}
	}
}

func TestExamples(t *testing.T) {
	expandIs(t, "a.{b,c{d,}}", "a.b", "a.cd", "a.c")
	matchIs(t, "s?[0-2]*", "sv1", true)
}

// memory: what is handed in stays, and what is handed out is new

// samples are patterns of which results could be pieces.
func samples() []string {
	return []string{"a", "ab", "a.b", "abc.def.ghi", "a.b.a.b", "*", "?", "[a]", "*.*", "s?[0-2]*", "{a}", "{abc,def}", "a{,}", "a{,,,}", "abc{}", "{}abc", "{abc.def}", "x{a,b}", "{a,a,a}", "{a,b}.{a,b}", "a.{b,c{d,}}", "{{{a}}}", "abc.{def,def}", "[{a,b}]", ".", "..", "a.", ".a",
		"", "{", "a b", "{a,}", "[", row("a", most), row("part", most+1), strings.Repeat("n", longName), strings.Repeat("{a,b}", 9), strings.Repeat("{a,b}", 10), strings.Repeat("long", 1000)}
}

// answers are all texts that the functions have to say about s.
func answers(s string) []string {
	l, err := glob.Expand(s)
	parts, errOfParts := glob.Parts(s)
	l = append(l, parts...)
	l = append(l, strconv.Itoa(int(err)), strconv.Itoa(int(errOfParts)), strconv.FormatBool(glob.Plain(s)))
	for _, part := range append([]string{"", "sv1", s}, parts...) {
		l = append(l, strconv.FormatBool(glob.Match(s, part)), strconv.FormatBool(glob.Match(part, s)))
	}
	return l
}

func TestResultsDependOnArgumentsAlone(t *testing.T) {
	var first [][]string
	for _, s := range samples() {
		first = append(first, answers(s))
	}
	l := samples()
	for i := len(l) - 1; i >= 0; i-- {
		if again := answers(l[i]); !slices.Equal(again, first[i]) {
			t.Errorf("of %q there was %q, and now it is %q", short(l[i]), shorts(first[i]), shorts(again))
		}
	}
}

func TestResultsShareNoMemory(t *testing.T) {
	for _, s := range samples() {
		s = strings.Clone(s)
		all := []string{s}
		for range 2 {
			l, _ := glob.Expand(s)
			all = append(all, l...)
			l, _ = glob.Parts(s)
			all = append(all, l...)
		}
		for i, a := range all {
			for _, b := range all[:i] {
				if meet(a, b) {
					t.Fatalf("of %q: %q and %q share memory", short(s), short(a), short(b))
				}
			}
		}
	}
}

func TestRowsOfResultsShareNoMemory(t *testing.T) {
	for _, s := range samples() {
		for _, ask := range []func(string) ([]string, api.Errno){glob.Expand, glob.Parts} {
			l1, _ := ask(s)
			l2, _ := ask(s)
			want := slices.Clone(l1)
			if len(l1) > 0 && unsafe.SliceData(l1) == unsafe.SliceData(l2) {
				t.Errorf("two results of %q share memory", short(s))
			}
			l1 = l1[:cap(l1)]
			for i := range l1 {
				l1[i] = "spoilt"
			}
			if l3, _ := ask(s); !slices.Equal(l2, want) || !slices.Equal(l3, want) {
				t.Errorf("of %q there was %q, and now it is %q and %q", short(s), shorts(want), shorts(l2), shorts(l3))
			}
		}
	}
}

func TestArgumentsAreNotKept(t *testing.T) {
	for _, s := range samples() {
		b := []byte(s)
		got := answers(over(b))
		if string(b) != s {
			t.Errorf("%q has become %q", short(s), short(string(b)))
		}
		want := slices.Clone(got)
		for i := range want {
			want[i] = strings.Clone(want[i])
		}
		for i := range b {
			b[i] = '!'
		}
		if !slices.Equal(got, want) {
			t.Errorf("results of %q change with it: %q", short(s), shorts(got))
		}
		if again := answers(s); !slices.Equal(again, want) {
			t.Errorf("of %q there was %q, and now it is %q", short(s), shorts(want), shorts(again))
		}
		matchIs(t, over([]byte("s*")), over([]byte("sv")), true)
	}
}
