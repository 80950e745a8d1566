package subst_test

import (
	"math"
	"regexp"
	"runtime"
	"slices"
	"strings"
	"sync"
	"testing"

	"graticule/api"
	"graticule/pike"
	"graticule/rex"
	"graticule/subst"
)

func TestGivenLimits(t *testing.T) {
	if api.MaxText != most || api.MaxRex != 1024 {
		t.Error("the limits are others:", api.MaxText, api.MaxRex)
	}
}

func TestExample(t *testing.T) {
	becomes(t, "a*", "x", "baac", "xbxxcx")
}

// P13.1: Check

func TestCheck(t *testing.T) {
	for _, s := range []string{
		"", "a", "ab", "0", "/", "\x00", "\xff", "äö", "$1", "{0}", strings.Repeat("a", 10000),
		`\0`, `\1`, `\2`, `\3`, `\4`, `\5`, `\6`, `\7`, `\8`, `\9`, `a\0`, `\0a`, `a\9b`, `\0\9`, `\10`, `\99`, `\0/`, `\9:`,
		`\\`, `a\\`, `\\a`, `\\\\`, `\\\\\\`, `a\\b\\c`, `\\0`, `\\9`, `\\/`, `\\:`, `\\\0`, `\\\\0`, `\0\\`, `\0\\\1`, `\\\\\9`,
		strings.Repeat(`\\`, 5000), strings.Repeat(`\0`, 5000), strings.Repeat("a", 5000) + `\1`,
	} {
		checkIs(t, s, api.OK)
	}
	for _, s := range []string{
		`\`, `a\`, `\/`, `\:`, `\a`, `\n`, `\ `, `\-`, `\$`, `\.`, "\\\x00", "\\\xff", "\\ä", "\\\n", `\x\0`, `\A`, `\d`, "\\\xb2", "\\\xc1", "\\\xd9",
		`\\\`, `\\\\\`, `\\a\`, `\0\`, `\9\`, `\0\\\`, `a\\\b`, `\\\/`, `\\\:`, `\0\a`, `\a\0`, `\a\\`, `\\\a\\`, `0\`, `\ 0`, `\-1`, `\1\-1`,
		strings.Repeat(`\`, 5001), strings.Repeat("a", 5000) + `\`, strings.Repeat(`\0`, 5000) + `\`, `\a` + strings.Repeat("a", 5000), `\` + strings.Repeat("a", 5000),
	} {
		checkIs(t, s, api.ErrSyntax)
	}
}

func TestCheckOfEachByte(t *testing.T) {
	for i := range 256 {
		c := string([]byte{byte(i)})
		escaped := api.ErrSyntax
		if strings.Contains(`0123456789\`, c) {
			escaped = api.OK
		}
		checkIs(t, `\`+c, escaped)
		checkIs(t, `a\`+c+"a", escaped)
		checkIs(t, `\\\`+c, escaped)
		checkIs(t, `\0\`+c, escaped)
		if c == `\` {
			continue
		}
		checkIs(t, c, api.OK)
		checkIs(t, `\\`+c, api.OK)
		checkIs(t, `\0`+c, api.OK)
		checkIs(t, c+`\\`, api.OK)
		checkIs(t, c+`\`, api.ErrSyntax)
		checkIs(t, `\\`+c+`\`, api.ErrSyntax)
	}
}

func TestShortTemplates(t *testing.T) {
	places := []int{0, 3, 1, 2, -1, -1, 2, 3, 3, 1}
	for _, s := range textsOf("\\09/:\\a1", 5) {
		checkIs(t, s, checkOf(s))
		expandIs(t, s, "bcd", places, expandOf(s, "bcd", places))
	}
	for _, s := range textsOf("\\1", 11) {
		checkIs(t, s, checkOf(s))
		expandIs(t, s, "bcd", places, expandOf(s, "bcd", places))
	}
}

// P13.1: Expand

func TestExpand(t *testing.T) {
	const text = "abcdefghijk"
	places := []int{0, 11, 0, 1, 1, 3, 2, 3, 3, 5, -1, -1, 5, 5, 11, 11, 7, 9, 10, 11}
	for _, x := range []struct{ template, want string }{
		{"", ""}, {"x", "x"}, {"xyz", "xyz"}, {"0", "0"}, {"$0", "$0"}, {"\x00\xff", "\x00\xff"}, {"ä€", "ä€"},
		{`\0`, text}, {`\1`, "a"}, {`\2`, "bc"}, {`\3`, "c"}, {`\4`, "de"}, {`\5`, ""}, {`\6`, ""}, {`\7`, ""}, {`\8`, "hi"}, {`\9`, "k"},
		{`<\1>`, "<a>"}, {`\1>`, "a>"}, {`<\1`, "<a"}, {`\1\2`, "abc"}, {`\2\1`, "bca"}, {`\1\1\1`, "aaa"}, {`\2-\2`, "bc-bc"}, {`<\5>`, "<>"}, {`\5\5`, ""}, {`\9\8\7\6\5\4\3\2\1`, "khidecbca"},
		// two digits in a row: only the first one belongs to the stroke
		{`\10`, "a0"}, {`\11`, "a1"}, {`\00`, text + "0"}, {`\99`, "k9"}, {`\123`, "a23"}, {`\55`, "5"}, {`\1\23`, "abc3"}, {`0\1`, "0a"}, {`1\20`, "1bc0"},
		// escaped strokes
		{`\\`, `\`}, {`\\\\`, `\\`}, {`a\\b`, `a\b`}, {`\\1`, `\1`}, {`\\\1`, `\a`}, {`\\\\1`, `\\1`}, {`\\\\\1`, `\\a`}, {`\1\\`, `a\`}, {`\1\\1`, `a\1`}, {`\1\\\1`, `a\a`}, {`\\0\\9`, `\0\9`}, {`\\a`, `\a`}, {`\\\\\\`, `\\\`},
		// strokes that escape nothing
		{`\`, `\`}, {`a\`, `a\`}, {`\a`, `\a`}, {`\a\b`, `\a\b`}, {`\/`, `\/`}, {`\:`, `\:`}, {`\/\0`, `\/` + text}, {`\:\1`, `\:a`}, {`\n`, `\n`}, {`\ 1`, `\ 1`}, {"\\\x00", "\\\x00"}, {"\\\xff", "\\\xff"}, {`\-1`, `\-1`},
		{`\\\`, `\\`}, {`\\\\\`, `\\\`}, {`\1\`, `a\`}, {`\1\x`, `a\x`}, {`\x\1`, `\xa`}, {`\x\\`, `\x\`}, {`\\\x`, `\\x`}, {`\x\`, `\x\`}, {`\x1`, `\x1`}, {`\x\\1`, `\x\1`},
	} {
		expandIs(t, x.template, text, places, x.want)
	}
	for i := range 256 {
		c := string([]byte{byte(i)})
		switch {
		case c == `\`:
			expandIs(t, `\`+c, text, places, c)
		case '0' <= i && i <= '9':
			expandIs(t, `\`+c, text, places, groupOf(text, places, i-'0'))
		default:
			expandIs(t, `\`+c, text, places, `\`+c)
			expandIs(t, `\1\`+c+`\\`, text, places, `a\`+c+`\`)
		}
		if c != `\` {
			expandIs(t, c, text, places, c)
			expandIs(t, `\1`+c+`\1`, text, places, "a"+c+"a")
		}
	}
}

// What is put in is not read as a template again.
func TestExpandOfStrokesInTheText(t *testing.T) {
	for _, x := range []struct {
		template, text string
		places         []int
		want           string
	}{
		{`\0`, `\1`, []int{0, 2, 1, 2}, `\1`}, {`\0\1`, `\1`, []int{0, 2, 1, 2}, `\11`}, {`\1\1`, `\\`, []int{0, 2, 0, 1}, `\\`}, {`\11`, `\\`, []int{0, 2, 0, 1}, `\1`}, {`\\\1`, "0", []int{0, 1, 0, 1}, `\0`}, {`\\\11`, "", []int{0, 0}, `\1`}, {`\0`, "\x00\xff\\", []int{0, 3}, "\x00\xff\\"},
	} {
		expandIs(t, x.template, x.text, x.places, x.want)
	}
}

func TestExpandOfGroupsThatAreNotThere(t *testing.T) {
	const text, all = "abc", `<\0\1\2\3\4\5\6\7\8\9>`
	for _, x := range []struct {
		places []int
		want   string
	}{
		{nil, "<>"}, {[]int{}, "<>"}, {[]int{0}, "<>"}, {[]int{0, 3}, "<abc>"}, {[]int{0, 3, 1}, "<abc>"}, {[]int{0, 3, 1, 2}, "<abcb>"},
		{[]int{-1, -1}, "<>"}, {[]int{-1, 3}, "<>"}, {[]int{0, -1}, "<>"}, {[]int{-1, -1, 1, 2}, "<b>"},
		{[]int{0, 4}, "<>"}, {[]int{3, 4}, "<>"}, {[]int{4, 4}, "<>"}, {[]int{4, 5, 1, 2}, "<b>"}, {[]int{0, math.MaxInt}, "<>"}, {[]int{math.MinInt, 2}, "<>"}, {[]int{math.MinInt, math.MaxInt}, "<>"}, {[]int{math.MaxInt, math.MinInt}, "<>"}, {[]int{1 << 32, 1<<32 + 1}, "<>"},
		{[]int{2, 1}, "<>"}, {[]int{3, 0}, "<>"}, {[]int{1, 0, 0, 1}, "<a>"}, {[]int{4, 2}, "<>"},
		{[]int{0, 0}, "<>"}, {[]int{3, 3}, "<>"},
		// more than ten of them
		{append(slices.Repeat([]int{1, 2}, 10), 0, 3, 0, 3), "<bbbbbbbbbb>"}, {append(slices.Repeat([]int{-1}, 18), 0, 3, 0, 1), "<abc>"},
	} {
		expandIs(t, all, text, x.places, x.want)
	}
	expandIs(t, all, "", nil, "<>")
	expandIs(t, all, "", []int{0, 0, 0, 1}, "<>")
	for k := range 10 {
		for n := range 23 {
			want := ""
			if 2*k+1 < n {
				want = "bc"
			}
			expandIs(t, `\`+string(rune('0'+k)), text, slices.Repeat([]int{1, 3}, 12)[:n], want)
		}
	}
	for _, s := range textsOf("ab", 3) {
		for first := -2; first <= 5; first++ {
			for second := -2; second <= 5; second++ {
				places := []int{first, second, second, first, 0, 1, 1}
				for _, template := range templates {
					expandIs(t, template, s, places, expandOf(template, s, places))
				}
			}
		}
	}
}

// Neither template nor text nor result has a limit there.
func TestExpandOfLongTexts(t *testing.T) {
	n := 1 << 20
	long := strings.Repeat("ab", n)
	expandIs(t, long, "", nil, long)
	expandIs(t, `\0`, long, []int{0, 2 * n}, long)
	expandIs(t, `<\0\1>`, long, []int{0, 2 * n, 2*n - 1, 2 * n}, "<"+long+"b>")
	expandIs(t, strings.Repeat(`\0`, n), "ab", []int{0, 2}, long)
	expandIs(t, strings.Repeat(`\\`, n), "", nil, strings.Repeat(`\`, n))
	expandIs(t, strings.Repeat(`\`, 2*n+1), "", nil, strings.Repeat(`\`, n+1))
	expandIs(t, strings.Repeat(`\1`, n), long, []int{0, 2}, "")
	expandIs(t, strings.Repeat(`\0`, 5), long, []int{0, 2 * n}, strings.Repeat(long, 5))
}

func TestScatteredTemplates(t *testing.T) {
	d := dice{13}
	for range 20000 {
		template := d.text(12, `\`, `\`, `\\`, `\0`, `\1`, `\2`, `\9`, "0", "9", "a", "/", ":", "\xff")
		text := d.text(8, "a", "b", `\`, "1", "\x00")
		var places []int
		for range d.upTo(22) {
			places = append(places, d.upTo(12)-2)
		}
		checkIs(t, template, checkOf(template))
		expandIs(t, template, text, places, expandOf(template, text, places))
	}
}

// P13.2: what is replaced

func TestAll(t *testing.T) {
	for _, x := range []struct{ s, template, text, want string }{
		{"a", "x", "a", "x"}, {"a", "x", "b", "b"}, {"a", "x", "", ""}, {"a", "x", "ab", "xb"}, {"a", "x", "ba", "bx"}, {"a", "x", "bab", "bxb"}, {"a", "x", "abca", "xbcx"}, {"a", "xyz", "bab", "bxyzb"}, {"a", "", "abab", "bb"}, {"a", "", "a", ""}, {"a", "aa", "bab", "baab"}, {"a", "ba", "aa", "baba"},
		// side by side, and one within another
		{"a", "x", "aaa", "xxx"}, {"aa", "x", "aaaa", "xx"}, {"aa", "x", "aaa", "xa"}, {"aa", "x", "baaab", "bxab"}, {"ab", "x", "ababab", "xxx"}, {"aba", "x", "ababa", "xba"}, {"a|b", "<\\0>", "abba", "<a><b><b><a>"}, {"a+", "<\\0>", "aabaaab", "<aa>b<aaa>b"}, {"a+?", "<\\0>", "aab", "<a><a>b"}, {"ab|a|b", "<\\0>", "abba", "<ab><b><a>"},
		// groups
		{"(a)(b)", `\2\1`, "abxab", "baxba"}, {"(a)|(b)", `<\1|\2>`, "ab", "<a|><|b>"}, {"(a)?b", `[\1]`, "bab", "[][a]"}, {`(\w+)\.(\w+)`, `\2.\1`, "web.cpu", "cpu.web"}, {`^(.*)\.count$`, `\1`, "a.b.count", "a.b"}, {`^.*\.([^.]+)\.([^.]+)$`, `\2@\1`, "a.b.c.d", "d@c"}, {"a", `\1`, "aba", "b"}, {"(a)", `\2`, "aba", "b"}, {"((a)b)c", `\2\1\0`, "xabcx", "xaababcx"}, {"(a)(b)(c)(d)(e)(f)(g)(h)(i)(j)", `\9\10`, "abcdefghijk", "ia0k"}, {"(a)|b", `\1\0`, "ab", "aab"},
		// also of bytes that stand outside of the match: none
		{"a(b*)c", `<\1>`, "abbcac", "<bb><>"}, {"(b)|(a)", `\1\1`, "abc", "bbc"},
		// strokes
		{"a", `\\`, "aba", `\b\`}, {"a", `\\0`, "a", `\0`}, {"a", `\\9\\`, "ba", `b\9\`}, {"a", `\\\0`, "ba", `b\a`}, {`\\`, `\\\\`, `a\b`, `a\\b`}, {`\\`, "/", `a\b\`, "a/b/"}, {`\\`, `\0`, `\0`, `\0`}, {".", `\00`, "ab", "a0b0"},
		// any byte
		{".", "<\\0>", "ä", "<\xc3><\xa4>"}, {"\x00", "\xff", "a\x00b\x00", "a\xffb\xff"}, {"[^a]", "-", "a\n\xff\x00a", "a---a"}, {"", "-", "ä", "-\xc3-\xa4-"}, {".*", "x", "a\nb", "xx\nxx"}, {".+", "x", "a\nb", "x\nx"},
	} {
		becomes(t, x.s, x.template, x.text, x.want)
	}
}

func TestMatchesOfNoByte(t *testing.T) {
	for _, x := range []struct{ s, template, text, want string }{
		// in a text of no byte
		{"", "x", "", "x"}, {"a*", "x", "", "x"}, {"^", "x", "", "x"}, {"$", "x", "", "x"}, {"^$", "x", "", "x"}, {"()", `<\1>`, "", "<>"}, {"(a)?", `<\1>`, "", "<>"}, {"", "", "", ""}, {"", `\0`, "", ""}, {"a+", "x", "", ""},
		// at the start, within, at the end
		{"", "x", "a", "xax"}, {"", "x", "ab", "xaxbx"}, {"", "", "ab", "ab"}, {"", "xy", "abc", "xyaxybxycxy"}, {"a*", "x", "bcb", "xbxcxbx"}, {"a*?", "x", "aa", "xaxax"}, {"a??", "x", "a", "xax"}, {"()", `<\1\0>`, "ab", "<>a<>b<>"}, {"$", "x", "ab", "abx"}, {"^", "x", "ab", "xab"}, {"|a", "x", "aa", "xaxax"},
		// just behind one that was not empty: one more, and the byte behind it stays
		{"a*", "x", "a", "xx"}, {"a*", "x", "aa", "xx"}, {"a*", "x", "ab", "xxbx"}, {"a*", "x", "aab", "xxbx"}, {"a*", "x", "aabaa", "xxbxx"}, {"a*", "x", "baac", "xbxxcx"}, {"a*", "<\\0>", "baac", "<>b<aa><>c<>"}, {"a*", "<\\0>", "abba", "<a><>b<>b<a><>"}, {"a?", "<\\0>", "aab", "<a><a><>b<>"}, {"b*|a", "<\\0>", "ab", "<>a<b><>"}, {"a|b*", "<\\0>", "ab", "<a><b><>"}, {"a|$", "<\\0>", "aba", "<a>b<a><>"}, {"^|a", "<\\0>", "aa", "<>a<a>"}, {"a|^", "<\\0>", "aa", "<a><a>"}, {"a+|", "<\\0>", "aab", "<aa><>b<>"}, {"(a)|(b)|()", `<\1\2\3>`, "acb", "<a><>c<b><>"}, {"a|", "x", "ab", "xxbx"}, {".*", "x", "ab", "xx"}, {"(.*)", `[\1]`, "ab", "[ab][]"}, {".*$", "x", "ab", "xx"}, {"^.*", "x", "ab", "x"}, {"^.*$", "x", "ab", "x"},
		// what is behind the match of no byte is looked at again, but not the byte that stays
		{"|ab", "<\\0>", "ab", "<>a<>b<>"}, {"a*?b|", "<\\0>", "caab", "<>c<aab><>"}, {"(?:b|)c*", "<\\0>", "acbc", "<>a<c><bc><>"}, {"b*?$|c", "<\\0>", "acb", "a<c><b><>"},
	} {
		becomes(t, x.s, x.template, x.text, x.want)
	}
}

// A search that goes on looks at the whole text, not at what is left of it.
func TestBeginAndEnd(t *testing.T) {
	for _, x := range []struct{ s, template, text, want string }{
		{"^a", "x", "aaa", "xaa"}, {"^a", "x", "baa", "baa"}, {"^", "x", "aaa", "xaaa"}, {"^a*", "x", "aab", "xb"}, {"^a|b", "x", "aab", "xax"}, {"^a|b", "x", "baa", "xaa"}, {"b|^a", "x", "aba", "xxa"}, {"(^|b)a", `<\1>`, "aabaa", "<>a<b>a"}, {"^ab|^c|d", "x", "abcd", "xcx"}, {"^a*?", "x", "aa", "xaa"}, {"(?:^a)+", "x", "aa", "xa"}, {"^$", "x", "a", "a"}, {"^$|a", "x", "a", "x"}, {"^()a", "x", "aaaa", "xaaa"}, {"^.", "x", "ab\nc", "xb\nc"},
		{"a$", "x", "aaa", "aax"}, {"a$", "x", "aab", "aab"}, {"$", "x", "aaa", "aaax"}, {"a*$", "x", "baa", "bxx"}, {"a*$", "x", "aab", "aabx"}, {"a$|b", "x", "aba", "axx"}, {"b$|a", "x", "abab", "xbxx"}, {"a($|b)", `<\1>`, "abaa", "<b>a<>"}, {".$", "x", "ab\nc", "ab\nx"}, {"b$", "x", "b\n", "b\n"}, {"(a|ab)$", "x", "abab", "abx"}, {"^ab$", "x", "ab", "x"}, {"^ab$", "x", "abab", "abab"},
	} {
		becomes(t, x.s, x.template, x.text, x.want)
	}
}

var expressions = []string{
	"", "a", "b", "ab", "a|b", "b|a", "a*", "a+", "a?", "a*?", "a+?", "a??", "(a)", "(a)*", "(a*)", "(a*)*", "(a)|(b)", "(a)|b", "a|", "|a", "b*|a", "(a|ab)(b|a)", "(a|b)*", "(a|b)*?", "(a)(b)", "(ab)+", "(a(b)?)+",
	"^", "$", "^a", "a$", "^a*", "a*$", "^a|b", "a|b$", "(^|b)a", "a($|b)", "^$", "a^", "$a", "(^)?a", "a($)?", "(^a)*", "b|^", "$|a", "()", "()()", "(|a)(|b)", ".", "(.)(.)", ".*", ".*?", "..", "(..)?", "a.", ".a", "[^a]", "[^a]*", "c", "(c)?", "a*b", "a*?b",
}

func TestShortTexts(t *testing.T) {
	texts := textsOf("ab", 7)
	for _, s := range expressions {
		p := compiled(t, s)
		for _, text := range texts {
			for _, template := range templates {
				holds(t, p, template, text)
			}
		}
	}
}

func TestScatteredExpressions(t *testing.T) {
	d := dice{1}
	for range 20000 {
		p, err := rex.Compile(d.expression(3))
		if err != api.OK {
			continue // too long, or a repetition that stands alone
		}
		template := d.text(6, `\0`, `\1`, `\2`, `\3`, `\\`, "x", "a", "<", ">")
		holds(t, p, template, d.text(12, "a", "b", "c", "\n"))
	}
}

// The engine of Go's library means the same but for one thing: just behind a match it takes none of no byte.
func TestOtherEngine(t *testing.T) {
	d := dice{7}
	replaced := 0
	for range 20000 {
		s := d.tame(2)
		p, err := rex.Compile(s)
		if err != api.OK {
			continue // too long
		}
		text := d.text(10, "a", "b", "c", "\n")
		got, err := subst.All(p, `<\0>`, text)
		want := regexp.MustCompile(s).ReplaceAllString(text, "<$0>")
		if got = strings.ReplaceAll(got, "><>", ">"); got != want || err != api.OK {
			t.Errorf("All of %q, <\\0>, %q is, but for empty ones just behind, %q, %d, not %q", s, text, got, err, want)
		}
		if want != text {
			replaced++
		}
	}
	if replaced < 8000 {
		t.Error("no more than", replaced, "of the texts have anything replaced")
	}
}

// P13.2: errors

func TestErrorsOfAll(t *testing.T) {
	long := strings.Repeat("a", most+1)
	a, none := compiled(t, "a"), compiled(t, "c")
	for _, bad := range []string{`\`, `a\`, `\a`, `\\\`, `\/`, `\:`, `\0\`, strings.Repeat("x", most) + `\`, strings.Repeat("x", 2*most) + `\`} {
		// also where nothing is replaced, and ahead of ErrLimit
		for _, p := range []rex.Prog{a, none, prog(-1, match()), prog(1025, match()), prog(0, jump(0)), {}} {
			for _, text := range []string{"", "a", "b", long[:most], long, strings.Repeat("b", most+1)} {
				fails(t, p, bad, text, api.ErrSyntax)
			}
		}
	}
	for _, p := range []rex.Prog{a, none, compiled(t, ""), compiled(t, "^a*$"), prog(-1, match()), prog(1025, match()), prog(0, jump(0)), {}} {
		for _, template := range []string{"", "x", `\0`, `\1`, `\\`} {
			fails(t, p, template, long, api.ErrLimit)
			fails(t, p, template, strings.Repeat("b", most+1), api.ErrLimit)
			fails(t, p, template, strings.Repeat("ab", most), api.ErrLimit)
			fails(t, p, template, strings.Repeat("\x00", 1<<20), api.ErrLimit)
		}
	}
}

func TestLongTexts(t *testing.T) {
	as, bs := strings.Repeat("a", most), strings.Repeat("b", most)
	for _, x := range []struct{ s, template, text, want string }{
		// no match
		{"c", "xx", as, as}, {"c", "xx", bs, bs}, {"^b", "xx", as, as}, {"a", strings.Repeat("x", most+1), bs, bs}, {"a", strings.Repeat(`\0`, 1<<20), "b", "b"},
		// one, or as many as there are bytes
		{"a", "x", as, strings.Repeat("x", most)}, {"a", `\0`, as, as}, {"a", "", as, ""}, {"a*", "x", as, "xx"}, {"a*", "", as, ""}, {"a*", `\0`, as, as}, {"", "", as, as}, {"", `\0\1`, as, as}, {"^a", "x", as, "x" + as[1:]}, {"a$", "x", as, as[1:] + "x"}, {"a", "x", as[1:] + "b", strings.Repeat("x", most-1) + "b"}, {"b", "", as[1:] + "b", as[1:]}, {"b*", "", as[1:] + "b", as[1:]}, {"aa", "xx", as, strings.Repeat("x", most)}, {"a*?", "", as, as}, {"(a)(a)", `\2\1`, as, as},
	} {
		if got, err := subst.All(compiled(t, x.s), x.template, x.text); got != x.want || err != api.OK {
			t.Errorf("All of %s, %s, %s is %s, %d, not %s", x.s, short(x.template), short(x.text), short(got), err, short(x.want))
		}
	}
	fails(t, compiled(t, "$"), "x", as, api.ErrLimit)
	fails(t, compiled(t, "^"), "x", as, api.ErrLimit)
	fails(t, compiled(t, "^a"), "xx", as, api.ErrLimit)
	fails(t, compiled(t, "a$"), "xx", as, api.ErrLimit)
	fails(t, compiled(t, ""), "x", as, api.ErrLimit)
}

func TestLongResults(t *testing.T) {
	x := func(n int) string { return strings.Repeat("x", n) }
	a := compiled(t, "a")
	// One match, with bytes ahead of it, behind it, or on both sides
	for _, n := range []int{0, 1, 2, 100, most - 1} {
		for ahead := 0; ahead <= n; ahead += max(n, 1) {
			text := strings.Repeat("b", ahead) + "a" + strings.Repeat("b", n-ahead)
			answers(t, a, x(most-n), text, strings.Repeat("b", ahead)+x(most-n)+strings.Repeat("b", n-ahead))
			answers(t, a, x(most-n-1), text, strings.Repeat("b", ahead)+x(most-n-1)+strings.Repeat("b", n-ahead))
			fails(t, a, x(most-n+1), text, api.ErrLimit)
			fails(t, a, x(most), text+"b", api.ErrLimit)
			fails(t, a, x(most), "b"+text, api.ErrLimit)
		}
	}
	answers(t, a, x(2000), "bbabb", "bb"+x(2000)+"bb")
	answers(t, a, x(4092), "bbabb", "bb"+x(4092)+"bb")
	fails(t, a, x(4093), "bbabb", api.ErrLimit)
	// Many of them
	for _, n := range []int{1, 2, 4, 64, 1024, most} {
		text := strings.Repeat("a", n)
		answers(t, a, x(most/n), text, x(most))
		answers(t, a, strings.Repeat(`\0`, most/n), text, strings.Repeat("a", most))
		answers(t, a, strings.Repeat(`\\`, most/n), text, strings.Repeat(`\`, most))
		answers(t, a, strings.Repeat(`\1`, most)+x(most/n), text, x(most))
		fails(t, a, x(most/n+1), text, api.ErrLimit)
		fails(t, a, x(most/n)+`\0`, text, api.ErrLimit)
		fails(t, a, x(most/n)+`\\`, text, api.ErrLimit)
		fails(t, a, `\0`+x(most/n), text, api.ErrLimit)
		if n < most {
			fails(t, a, x(most/n), text+"b", api.ErrLimit)
			fails(t, a, x(most/n), "b"+text, api.ErrLimit)
			fails(t, a, x(most/n), text[1:]+"ba", api.ErrLimit)
			answers(t, a, x(most/n), text[1:]+"b", x(most-most/n)+"b")
		}
	}
	// Empty ones: the bytes between them count too
	empty := compiled(t, "")
	answers(t, empty, x(most), "", x(most))
	fails(t, empty, x(most+1), "", api.ErrLimit)
	answers(t, empty, "x", strings.Repeat("b", most/2-1), strings.Repeat("xb", most/2-1)+"x")
	answers(t, compiled(t, "|b"), x(15), strings.Repeat("b", 255), strings.Repeat(x(15)+"b", 255)+x(15))
	fails(t, empty, "x", strings.Repeat("b", most/2), api.ErrLimit)
	answers(t, empty, x(2047), "b", x(2047)+"b"+x(2047))
	fails(t, empty, x(2048), "b", api.ErrLimit)
	answers(t, compiled(t, "$"), x(96), strings.Repeat("b", 4000), strings.Repeat("b", 4000)+x(96))
	fails(t, compiled(t, "$"), x(97), strings.Repeat("b", 4000), api.ErrLimit)
	answers(t, compiled(t, "^"), x(96), strings.Repeat("b", 4000), x(96)+strings.Repeat("b", 4000))
	fails(t, compiled(t, "^"), x(97), strings.Repeat("b", 4000), api.ErrLimit)
	// The rest of the text, and groups
	answers(t, a, x(100), "a"+strings.Repeat("b", most-100), x(100)+strings.Repeat("b", most-100))
	fails(t, a, x(100), "a"+strings.Repeat("b", most-99), api.ErrLimit)
	answers(t, a, `\0`, strings.Repeat("ab", most/2), strings.Repeat("ab", most/2))
	fails(t, a, `\0\0`, strings.Repeat("ab", most/2), api.ErrLimit)
	answers(t, compiled(t, "a|(b+)"), `\1\1`, "aaa"+strings.Repeat("b", most/2), strings.Repeat("b", most))
	fails(t, compiled(t, "a|(b+)"), `\1\1`, "aaa"+strings.Repeat("b", most/2+1), api.ErrLimit)
}

// What would be gibibytes is not put together only to be thrown away.
func TestResultsThatAreFarTooLong(t *testing.T) {
	n := 1 << 20
	as := strings.Repeat("a", most)
	var before, after runtime.MemStats
	runtime.ReadMemStats(&before)
	inGoodTime(t, func() {
		for _, template := range []string{strings.Repeat("x", 4*n), strings.Repeat(`\0`, n), strings.Repeat(`\\`, n), `\0\0`, strings.Repeat(`\1x`, n), strings.Repeat(`x\\\0`, n)} {
			for _, s := range []string{"a*", "a+", "^a*$", ".*", "(a*)", "c|(.+)"} {
				fails(t, compiled(t, s), template, as, api.ErrLimit)
			}
		}
		for _, template := range []string{strings.Repeat("x", 4*n), strings.Repeat(`\\`, n), "xx", strings.Repeat("x", most)} {
			for _, s := range []string{"", "a", "a??", "(a)", "$|a"} {
				fails(t, compiled(t, s), template, as, api.ErrLimit)
			}
		}
	})
	runtime.ReadMemStats(&after)
	if used := after.TotalAlloc - before.TotalAlloc; used > 1<<30 {
		t.Error("bytes of memory:", used)
	}
}

// P13.2: programs that Compile does not make

func TestNumberOfGroups(t *testing.T) {
	l := []rex.Inst{save(0), set("aa"), save(1), match()}
	for _, n := range []int{-1, -2, -1024, math.MinInt, math.MinInt / 2, 1025, 1026, 1 << 32, math.MaxInt, math.MaxInt / 2} {
		for _, text := range []string{"", "a", "ba", "aab", strings.Repeat("a", most)} {
			answers(t, prog(n, l...), "x", text, text)
			answers(t, prog(n, match()), "x", text, text)
		}
	}
	for _, n := range []int{0, 1, 9, 10, 1023, 1024} {
		answers(t, prog(n, l...), `<\0\1\9>`, "aba", "<a>b<a>")
	}
	// Nine groups have a digit
	for n := range 13 {
		l, want := []rex.Inst{save(0)}, "a"
		for k := range n {
			l = append(l, save(2*k+2), set("aa"), save(2*k+3))
			if k < 9 {
				want += "a"
			}
		}
		p := prog(n, append(l, set("aa"), save(1), match())...)
		answers(t, p, `\0\1\2\3\4\5\6\7\8\9`, strings.Repeat("a", n+1)+"b", strings.Repeat("a", n)+want+"b")
	}
	// A group behind the match that it belongs to, and one ahead of it
	answers(t, prog(1, save(0), set("aa"), save(1), save(2), set("bb"), save(3), match()), `<\0\1>`, "abaab", "<ab>ba<ab>b")
	answers(t, prog(1, save(2), set("bb"), save(3), save(0), set("aa"), save(1), match()), `<\0\1>`, "babba", "b<ab>bb<ab>")
	// Groups that are recorded, but are not counted, and such as are counted, but not recorded
	answers(t, prog(0, save(0), save(2), set("aa"), save(1), save(3), match()), `<\0\1>`, "a", "<a>")
	answers(t, prog(1, save(0), save(2), set("aa"), save(1), save(3), match()), `<\0\1>`, "a", "<aa>")
	answers(t, prog(2, save(0), save(2), set("aa"), save(1), match()), `<\0\1\2>`, "a", "<a>")
}

// The rest of the text is appended, and that is all.
func TestForeignPrograms(t *testing.T) {
	a, any := set("aa"), set("\x00\xff")
	for _, x := range []struct {
		l          []rex.Inst
		text, want string
	}{
		// no match at all
		{nil, "ab", "ab"}, {[]rex.Inst{jump(0)}, "ab", "ab"}, {[]rex.Inst{split(0, 0)}, "ab", "ab"}, {[]rex.Inst{save(0), save(1)}, "ab", "ab"}, {[]rex.Inst{{Op: 8}}, "ab", "ab"}, {[]rex.Inst{jump(-1)}, "ab", "ab"},
		// no 0, no 1, neither
		{[]rex.Inst{match()}, "ab", "ab"}, {[]rex.Inst{match()}, "", ""}, {[]rex.Inst{a, match()}, "aa", "aa"}, {[]rex.Inst{a, save(1), match()}, "aa", "aa"}, {[]rex.Inst{save(1), match()}, "", ""}, {[]rex.Inst{save(0), a, match()}, "aa", "aa"}, {[]rex.Inst{save(0), match()}, "", ""}, {[]rex.Inst{save(2), a, save(3), match()}, "aa", "aa"}, {[]rex.Inst{save(-1), save(2), match()}, "a", "a"}, {[]rex.Inst{save(1), save(1), match()}, "aa", "aa"}, {[]rex.Inst{save(1), match()}, "ab", "ab"}, {[]rex.Inst{save(0), match()}, "ab", "ab"},
		// an end ahead of the start
		{[]rex.Inst{save(1), a, save(0), match()}, "baa", "baa"}, {[]rex.Inst{save(1), a, a, save(0), match()}, "aab", "aab"}, {[]rex.Inst{save(1), a, save(0), match()}, "aaaa", "aaaa"},
		// an end just at the start
		{[]rex.Inst{save(1), save(0), match()}, "ab", "<>a<>b<>"}, {[]rex.Inst{a, save(1), save(0), match()}, "aaab", "a<>aa<>b"}, {[]rex.Inst{a, save(0), save(1), match()}, "aa", "a<>a"},
		// a start behind what is looked at, and an end ahead of what is looked at
		{[]rex.Inst{a, save(0), any, save(1), match()}, "aab", "a<a>b"}, {[]rex.Inst{a, save(0), any, save(1), match()}, "abab", "a<b>a<b>"}, {[]rex.Inst{save(0), any, save(1), a, match()}, "baab", "<b><a>ab"}, {[]rex.Inst{save(0), save(1), a, match()}, "aba", "<>ab<>a"}, {[]rex.Inst{save(0), save(1), any, match()}, "ab", "<>a<>b"}, {[]rex.Inst{save(0), any, save(1), a, a, match()}, "baaaa", "<b><a><a>aa"}, {[]rex.Inst{save(0), any, save(1), end(), match()}, "ab", "a<b>"}, {[]rex.Inst{save(0), any, save(1), any, end(), match()}, "aab", "a<a>b"},
		// recorded more than once: the last one counts
		{[]rex.Inst{save(0), a, save(0), any, save(1), match()}, "aab", "a<a>b"}, {[]rex.Inst{save(0), a, save(1), any, save(1), match()}, "aab", "<aa>b"}, {[]rex.Inst{save(1), save(0), a, save(1), match()}, "ba", "b<a>"}, {[]rex.Inst{save(0), a, save(1), a, save(0), match()}, "baaa", "baaa"},
		// only one of two paths is a good one: it goes on until the other one comes
		{[]rex.Inst{split(1, 5), save(0), a, save(1), match(), set("bb"), match()}, "aaba", "<a><a>ba"}, {[]rex.Inst{split(1, 5), save(0), a, save(1), match(), set("bb"), save(0), match()}, "caba", "c<a>ba"}, {[]rex.Inst{split(1, 5), save(0), a, save(1), match(), set("bb"), save(1), match()}, "acabaa", "<a>c<a>baa"}, {[]rex.Inst{split(1, 5), save(0), a, save(1), match(), save(1), set("bb"), save(0), match()}, "acabaa", "<a>c<a>baa"}, {[]rex.Inst{save(0), split(2, 4), end(), match(), a, save(1), match()}, "aaba", "<a><a>b<a>"}, {[]rex.Inst{split(1, 4), begin(), save(0), jump(5), match(), any, save(1), match()}, "abc", "<a>bc"},
	} {
		p := prog(0, x.l...)
		answers(t, p, `<\0>`, x.text, x.want)
		for _, template := range templates {
			holds(t, p, template, x.text)
		}
	}
	// Also of a great many bytes
	as := strings.Repeat("a", most)
	for _, l := range [][]rex.Inst{{match()}, {save(0), match()}, {save(1), match()}, {save(1), a, save(0), match()}} {
		answers(t, prog(0, l...), "xx", as, as)
		fails(t, prog(0, l...), "xx", as+"a", api.ErrLimit)
		fails(t, prog(0, l...), `\`, as, api.ErrSyntax)
	}
	// The rest counts, wherever it begins
	p := prog(0, split(1, 5), save(0), a, save(1), match(), set("bb"), match())
	bs := strings.Repeat("b", most-3)
	answers(t, p, "xxx", "a"+bs, "xxx"+bs)
	fails(t, p, "xxx", "a"+bs+"b", api.ErrLimit)
	fails(t, p, "xxx", "aa"+bs, api.ErrLimit)
	fails(t, p, "xxxx", "a"+bs, api.ErrLimit)
}

func TestShortPrograms(t *testing.T) {
	l := []rex.Inst{set("aa"), set("\x00\xff"), split(0, 1), split(2, 1), split(1, 3), split(4, 2), jump(0), jump(2), jump(4), save(0), save(1), save(2), save(3), begin(), end(), match(), {Op: 9}}
	texts := textsOf("ab", 3)
	for n := range 4 {
		programsOf(n, l, func(l []rex.Inst) {
			for _, p := range []rex.Prog{prog(1, l...), prog(1, append(l, match())...), prog(1, append([]rex.Inst{save(0)}, append(l, save(1), match())...)...)} {
				for _, text := range texts {
					holds(t, p, `<\0|\1>`, text)
				}
			}
		})
	}
}

func TestScatteredPrograms(t *testing.T) {
	d := dice{3}
	replaced := 0
	for range 30000 {
		p := prog(d.upTo(4), d.program(d.upTo(14))...)
		if d.upTo(2) == 0 {
			p.L = append([]rex.Inst{save(0), save(1)}, p.L...)
		}
		template, text := d.of(templates...), d.text(9, "a", "b", "c")
		holds(t, p, template, text)
		if len(matchesOf(p, text)) > 1 {
			replaced++
		}
	}
	if replaced < 3000 {
		t.Error("no more than", replaced, "of the programs have more than one match")
	}
}

// W1: whatever a program does, it ends.
func TestItEnds(t *testing.T) {
	inGoodTime(t, func() {
		as := strings.Repeat("a", most)
		for _, s := range []string{"(a*)*b", "(a+)+b", "(a|a)*$", "((a*?)*?)*?", "(?:a*a*a*a*)*b", "a*?", "(^)*", "($)*", "()*()*"} {
			got, err := subst.All(compiled(t, s), "", as)
			if err != api.OK || len(got) > most {
				t.Errorf("All of %q is %s, %d", s, short(got), err)
			}
		}
		answers(t, compiled(t, "(?:.*b)|"), "", as, as)
		answers(t, compiled(t, "(?:.*b)??"), "", as, as)
		n := 1 << 20
		long := slices.Repeat([]rex.Inst{jump(0)}, n)
		answers(t, prog(0, long...), "x", "abc", "abc")
		for i := range long {
			long[i] = split(i+1, i+1)
		}
		answers(t, prog(0, append(long, save(0), save(1), match())...), "x", "abc", "xaxbxcx")
	})
}

// P13.3

func TestNoMatch(t *testing.T) {
	d := dice{5}
	programs := []rex.Prog{compiled(t, "[^\x00-\xff]"), compiled(t, "$a"), compiled(t, "b^"), compiled(t, "#"), compiled(t, "(?:#)+"), prog(0), prog(-1, match()), prog(2000, match()), prog(0, match()), prog(0, jump(0))}
	for range 1000 {
		b := make([]byte, d.upTo(40))
		for i := range b {
			if b[i] = byte(d.upTo(256)); b[i] == '#' {
				b[i] = 'a'
			}
		}
		for _, p := range programs {
			for _, template := range []string{"", "x", `\0`, `\\`, `\1\2`, strings.Repeat("x", most+1)} {
				answers(t, p, template, string(b), string(b))
			}
		}
	}
}

// What puts all of it back leaves the text as it is.
func TestAllOfItPutBack(t *testing.T) {
	d := dice{11}
	var programs []rex.Prog
	for _, s := range expressions {
		programs = append(programs, compiled(t, s))
	}
	for len(programs) < 300 {
		if p, err := rex.Compile(d.expression(3)); err == api.OK {
			programs = append(programs, p)
		}
	}
	texts := textsOf("ab", 4)
	for range 50 {
		texts = append(texts, d.text(40, "a", "b", "c", "\n", "\xff", "ä", `\`, `\0`))
	}
	texts = append(texts, strings.Repeat("ab", 200), strings.Repeat(`\0`, 200))
	for _, p := range programs {
		for _, text := range texts {
			answers(t, p, `\0`, text, text)
		}
	}
	as := strings.Repeat("a", most)
	for _, s := range []string{"", "a", "a*", "a+?", "^a", "a$", ".*", "(a)(a)"} {
		answers(t, compiled(t, s), `\0`, as, as)
	}
}

var samples = []struct{ s, template, text string }{
	{"a*", "x", "baac"}, {"(a)(b)", `\2\1`, "abxab"}, {"c", `\0`, "abab"}, {"a", `\\`, "aba"}, {"(.*)", `\1\1`, "abc"}, {"", "-", ""}, {"", `\0`, "abc"}, {"^.*$", `\0`, "abc"}, {"^.*$", "template", "abc"}, {"a", `\`, "a"}, {"b", "", "ab"},
}

func TestResultsShareNoMemory(t *testing.T) {
	results := []string{subst.Expand("template", "", nil), subst.Expand("template", "", nil)}
	var arguments []string
	for range 2 {
		for _, x := range samples {
			p := compiled(t, x.s)
			all, _ := subst.All(p, x.template, x.text)
			places, _ := pike.Find(p, x.text, 0)
			results = append(results, all, subst.Expand(x.template, x.text, places), subst.Expand(`\0`, x.text, places))
			arguments = append(arguments, x.template, x.text)
		}
	}
	for i, a := range results {
		for _, b := range slices.Concat(results[:i], arguments, []string{"template"}) {
			if meet(a, b) {
				t.Errorf("the result %q and %q have a byte of memory in common", a, b)
			}
		}
	}
}

func TestArgumentsAreNeitherChangedNorKept(t *testing.T) {
	for _, x := range samples {
		p := compiled(t, x.s)
		room := append(slices.Clone(p.L), rex.Inst{Op: 8}, rex.Inst{Op: 9})
		p.L = room[:len(p.L)]
		before := slices.Clone(room)
		template, text := []byte(x.template), []byte(x.text)
		places := append(make([]int, 0, 9), 0, len(text), 0, len(text))
		all, err := subst.All(p, over(template), over(text))
		expanded := subst.Expand(over(template), over(text), places)
		subst.Check(over(template))
		if !slices.Equal(room, before) || string(template) != x.template || string(text) != x.text || !slices.Equal(places[:9], []int{0, len(text), 0, len(text), 0, 0, 0, 0, 0}) {
			t.Errorf("the arguments %q, %q, %q have changed", x.s, x.template, x.text)
		}
		want, wantErr := allOf(p, x.template, x.text)
		wantExpanded := expandOf(x.template, x.text, places)
		clear(room)
		clear(places)
		for i := range template {
			template[i] = '#'
		}
		for i := range text {
			text[i] = '#'
		}
		if all != want || err != wantErr || expanded != wantExpanded {
			t.Errorf("%q, %q, %q: the results have changed since: %q, %d, %q", x.s, x.template, x.text, all, err, expanded)
		}
	}
}

func TestResultsDependOnTheirArgumentsAlone(t *testing.T) {
	ask := func() {
		for _, x := range samples {
			p, _ := rex.Compile(x.s)
			holds(t, p, x.template, x.text)
			checkIs(t, x.template, checkOf(x.template))
			expandIs(t, x.template, x.text, []int{0, 1}, expandOf(x.template, x.text, []int{0, 1}))
		}
	}
	as := strings.Repeat("a", most)
	for _, ahead := range []func(){
		func() { fails(t, compiled(t, "a"), "xx", as, api.ErrLimit) }, func() { fails(t, compiled(t, "a"), `xx\`, as, api.ErrSyntax) }, func() { fails(t, compiled(t, "a"), "xx", as+"a", api.ErrLimit) }, func() { answers(t, prog(-1, match()), "xx", as, as) }, func() { answers(t, compiled(t, "(.)"), `\1`, as, as) }, func() { subst.Expand(`\0\1`, "abc", []int{0, 3, 1, 2}) },
	} {
		ahead()
		ask()
	}
	var w sync.WaitGroup
	for range 8 {
		w.Go(func() {
			for range 50 {
				ask()
			}
		})
	}
	w.Wait()
}
