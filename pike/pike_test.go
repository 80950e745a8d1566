package pike_test

import (
	"math"
	"regexp"
	"slices"
	"strings"
	"testing"
	"unsafe"

	"graticule/api"
	"graticule/pike"
	"graticule/rex"
)

func TestGivenLimit(t *testing.T) {
	if api.MaxRex != most {
		t.Error("the limit is another:", api.MaxRex)
	}
}

func TestExample(t *testing.T) {
	finds(t, "(a|ab)(c|bcd)", "abcd", 0, 0, 4, 0, 1, 1, 4)
}

// P12.1: which offset, and which path

func TestFirstOffset(t *testing.T) {
	for _, x := range []struct {
		s, text string
		want    []int
	}{
		{"a", "a", []int{0, 1}}, {"a", "baa", []int{1, 2}}, {"a", "bba", []int{2, 3}}, {"ab", "aab", []int{1, 3}}, {"aa", "abaab", []int{2, 4}}, {"", "ab", []int{0, 0}}, {"b*", "abb", []int{0, 0}}, {"b+", "abb", []int{1, 3}},
		// also of a branch that stands behind, or that is shorter
		{"b|a", "ab", []int{0, 1}}, {"c|b|a", "abc", []int{0, 1}}, {"bbb|ab", "abbb", []int{0, 2}}, {"aab|ab", "aaab", []int{1, 4}}, {"b+|a", "abbb", []int{0, 1}},
		// also where a run from behind is successful with fewer bytes
		{"abcd|b", "abcd", []int{0, 4}}, {"abcd|bc", "abcd", []int{0, 4}}, {"abcd|b|c", "abcd", []int{0, 4}}, {"a.*d|b", "abbd", []int{0, 4}}, {"a.*$|b", "abbb", []int{0, 4}},
		// unless the one ahead fails
		{"abcd|b", "abce", []int{1, 2}}, {"abcd|b|c", "abcx", []int{1, 2}}, {"a.*d|b", "abbb", []int{1, 2}}, {"a.*d|b.*c|b", "abbb", []int{1, 2}}, {"a.*d|bb*c|bb", "abbb", []int{1, 3}}, {"aaaab|a", "aaaac", []int{0, 1}}, {"aaaab|ac", "aaaac", []int{3, 5}},
		// none
		{"c", "ab", nil}, {"ba", "ab", nil}, {"aaa", "aa", nil}, {"a+b", "aac", nil}, {"[^\x00-\xff]", "ab", nil}, {"a.c", "a\nc", nil}, {"a", "", nil}, {".", "", nil}, {"a+", "", nil}, {"(a)", "b", nil}, {"A", "a", nil},
		// any byte
		{"\x00", "a\x00", []int{1, 2}}, {"\xff+", "\xfe\xff\xff", []int{1, 3}}, {".", "\n\xff", []int{1, 2}}, {"ä", "aä", []int{1, 3}}, {".", "ä", []int{0, 1}}, {"[^a]", "a\n", []int{1, 2}},
	} {
		finds(t, x.s, x.text, 0, x.want...)
	}
}

func TestFirstPath(t *testing.T) {
	for _, x := range []struct {
		s, text string
		want    []int
	}{
		{"a|ab", "ab", []int{0, 1}}, {"ab|a", "ab", []int{0, 2}}, {"|a", "a", []int{0, 0}}, {"a|", "a", []int{0, 1}}, {"a|abc|abcd", "abcd", []int{0, 1}}, {"abc|a|abcd", "abcd", []int{0, 3}}, {"abx|a|ab", "abcd", []int{0, 1}},
		{"a*", "aaa", []int{0, 3}}, {"a+", "aaa", []int{0, 3}}, {"a?", "aaa", []int{0, 1}}, {"a*?", "aaa", []int{0, 0}}, {"a+?", "aaa", []int{0, 1}}, {"a??", "aaa", []int{0, 0}},
		{"a*?b", "aab", []int{0, 3}}, {"a+?b", "aab", []int{0, 3}}, {"a??b", "aab", []int{1, 3}}, {"a.*b", "aabab", []int{0, 5}}, {"a.*?b", "aabab", []int{0, 3}}, {"a.*?$", "aab", []int{0, 3}}, {"(?:a|ab)*c", "aabac", []int{0, 5}},
		{"(a*)(a*)", "aa", []int{0, 2, 0, 2, 2, 2}}, {"(a*?)(a*)", "aa", []int{0, 2, 0, 0, 0, 2}}, {"(a+?)(a*)", "aaa", []int{0, 3, 0, 1, 1, 3}}, {"(a+)(a+)", "aaa", []int{0, 3, 0, 2, 2, 3}}, {"(a?)(a?)(a?)", "aa", []int{0, 2, 0, 1, 1, 2, 2, 2}}, {"(a??)(a?)", "a", []int{0, 1, 0, 0, 0, 1}},
		{"(ab|a)(bcd|c)", "abcd", []int{0, 3, 0, 2, 2, 3}}, {"(a|ab)(c|bcd)(d*)", "abcd", []int{0, 4, 0, 1, 1, 4, 4, 4}}, {"(a|ab)(bcd|c)", "abcd", []int{0, 4, 0, 1, 1, 4}}, {"(a|ab|abc)(d|cd|bcd)", "abcd", []int{0, 4, 0, 1, 1, 4}}, {"(abc|ab|a)(d|cd|bcd)", "abcd", []int{0, 4, 0, 3, 3, 4}}, {"(|a)(b)?", "ab", []int{0, 0, 0, 0, -1, -1}},
		// the one ahead may take more bytes than the one behind before it fails or is successful
		{"(a+)b|(a)", "aaac", []int{0, 1, -1, -1, 0, 1}}, {"(a+)b|(a)", "aaab", []int{0, 4, 0, 3, -1, -1}}, {"(a.*c)|(ab)|(a)", "abbb", []int{0, 2, -1, -1, 0, 2, -1, -1}}, {"(a.*c)|(ab)|(a)", "abbc", []int{0, 4, 0, 4, -1, -1, -1, -1}}, {"(abc)|(ab)|(a)", "abd", []int{0, 2, -1, -1, 0, 2, -1, -1}}, {"(a)|(ab)|(abc)", "abc", []int{0, 1, 0, 1, -1, -1, -1, -1}},
	} {
		finds(t, x.s, x.text, 0, x.want...)
	}
}

func TestFrom(t *testing.T) {
	for _, x := range []struct {
		s, text string
		from    int
		want    []int
	}{
		{"a*", "baac", -1, nil}, {"a*", "baac", 0, []int{0, 0}}, {"a*", "baac", 1, []int{1, 3}}, {"a*", "baac", 2, []int{2, 3}}, {"a*", "baac", 3, []int{3, 3}}, {"a*", "baac", 4, []int{4, 4}}, {"a*", "baac", 5, nil}, {"a*", "baac", 6, nil}, {"a*", "baac", math.MaxInt, nil}, {"a*", "baac", math.MinInt, nil}, {"a*", "baac", -4, nil}, {"a*", "baac", 1 << 32, nil}, {"a*", "baac", -1 << 32, nil},
		{"a", "aba", 0, []int{0, 1}}, {"a", "aba", 1, []int{2, 3}}, {"a", "aba", 2, []int{2, 3}}, {"a", "aba", 3, nil}, {"(b)(a)", "abab", 2, []int{}}, {"(b)(a)", "abab", 1, []int{1, 3, 1, 2, 2, 3}},
		{"a", "", 0, nil}, {"", "", 0, []int{0, 0}}, {"", "", 1, nil}, {"", "", -1, nil}, {"(a)?", "", 0, []int{0, 0, -1, -1}}, {"()", "", 0, []int{0, 0, 0, 0}}, {"a*b*?", "", 0, []int{0, 0}},
		// a match of no byte
		{"", "ab", 1, []int{1, 1}}, {"", "ab", 2, []int{2, 2}}, {"b*?", "abb", 1, []int{1, 1}}, {"b??", "abb", 3, []int{3, 3}}, {"()", "ab", 1, []int{1, 1, 1, 1}}, {"(b*)$", "ab", 2, []int{2, 2, 2, 2}}, {"(b*)$", "ab", 0, []int{1, 2, 1, 2}}, {"(c*)$", "ab", 0, []int{2, 2, 2, 2}}, {"a*", "ba", 2, []int{2, 2}},
	} {
		finds(t, x.s, x.text, x.from, x.want...)
	}
}

func TestBeginAndEnd(t *testing.T) {
	for _, x := range []struct {
		s, text string
		from    int
		want    []int
	}{
		{"^", "", 0, []int{0, 0}}, {"^", "ab", 0, []int{0, 0}}, {"^", "ab", 1, nil}, {"^", "ab", 2, nil}, {"^a", "aa", 0, []int{0, 1}}, {"^a", "aa", 1, nil}, {"^b", "ab", 0, nil}, {"^b", "ab", 1, nil}, {"^b", "a\nb", 0, nil}, {"b^a", "ba", 0, nil}, {"a^", "a", 0, nil}, {"^^a", "a", 0, []int{0, 1}}, {"^*a", "ba", 1, []int{1, 2}}, {"^?a", "ba", 0, []int{1, 2}}, {"^+a", "aa", 0, []int{0, 1}}, {"(?:^a)+", "aa", 0, []int{0, 1}}, {"(?:^a)*", "aa", 1, []int{1, 1}},
		{"^a|b", "ab", 0, []int{0, 1}}, {"^a|b", "ab", 1, []int{1, 2}}, {"(^|b)a", "aba", 0, []int{0, 1, 0, 0}}, {"(^|b)a", "aba", 1, []int{1, 3, 1, 2}}, {"(^)?a", "ba", 0, []int{1, 2, -1, -1}}, {"(^)?a", "a", 0, []int{0, 1, 0, 0}},
		{"$", "", 0, []int{0, 0}}, {"$", "ab", 0, []int{2, 2}}, {"$", "ab", 1, []int{2, 2}}, {"$", "ab", 2, []int{2, 2}}, {"a$", "aa", 0, []int{1, 2}}, {"a$", "aa", 1, []int{1, 2}}, {"a$", "aa", 2, nil}, {"a$", "ab", 0, nil}, {"a$", "a\n", 0, nil}, {"a$b", "ab", 0, nil}, {"$a", "a", 0, nil}, {"a$$", "a", 0, []int{0, 1}}, {"a$*b", "ab", 0, []int{0, 2}}, {"a*$", "aab", 0, []int{3, 3}}, {"a*?$", "baa", 0, []int{1, 3}}, {"$*", "ab", 0, []int{0, 0}},
		{"a(b|$)", "aab", 0, []int{1, 3, 2, 3}}, {"a(b|$)", "ba", 0, []int{1, 2, 2, 2}}, {"a($|b)", "ab", 0, []int{0, 2, 1, 2}}, {"(a|ab)$", "ab", 0, []int{0, 2, 0, 2}},
		{"^$", "", 0, []int{0, 0}}, {"^$", "a", 0, nil}, {"^$", "a", 1, nil}, {"$^", "", 0, []int{0, 0}}, {"^a$", "a", 0, []int{0, 1}}, {"^a$", "aa", 0, nil}, {"^(a*)$", "aaa", 0, []int{0, 3, 0, 3}}, {"^(?:a|ab)$", "ab", 0, []int{0, 2}}, {"^a*?$", "aaa", 0, []int{0, 3}}, {"(^)($)", "", 0, []int{0, 0, 0, 0, 0, 0}},
	} {
		finds(t, x.s, x.text, x.from, x.want...)
	}
}

// P12.1: what is recorded

func TestGroups(t *testing.T) {
	for _, x := range []struct {
		s, text string
		want    []int
	}{
		// that the path does not reach
		{"(a)|(b)", "a", []int{0, 1, 0, 1, -1, -1}}, {"(a)|(b)", "b", []int{0, 1, -1, -1, 0, 1}}, {"(a)?b", "b", []int{0, 1, -1, -1}}, {"(a)*b", "b", []int{0, 1, -1, -1}}, {"(a)*?", "a", []int{0, 0, -1, -1}}, {"a|(b)|(c)", "a", []int{0, 1, -1, -1, -1, -1}}, {"(a(b)?)(c)", "ac", []int{0, 2, 0, 1, -1, -1, 1, 2}}, {"(?:(a)|(b)|c)d", "cd", []int{0, 2, -1, -1, -1, -1}},
		// within one another, and one behind the other
		{"((a)b)", "ab", []int{0, 2, 0, 2, 0, 1}}, {"(((a)))", "ba", []int{1, 2, 1, 2, 1, 2, 1, 2}}, {"(a(b(c)))d", "abcd", []int{0, 4, 0, 3, 1, 3, 2, 3}}, {"(a)(b)(c)", "abc", []int{0, 3, 0, 1, 1, 2, 2, 3}}, {"a(b)c", "xabc", []int{1, 4, 2, 3}}, {"a()b", "ab", []int{0, 2, 1, 1}}, {"(?:a(?:b))(c)", "abc", []int{0, 3, 2, 3}}, {"((a)|(b))((c)|(d))", "bc", []int{0, 2, 0, 1, -1, -1, 0, 1, 1, 2, 1, 2, -1, -1}},
		// under a repetition: the last one counts
		{"(a|b)*", "abb", []int{0, 3, 2, 3}}, {"(a|b)+", "ab", []int{0, 2, 1, 2}}, {"(a|b)+?$", "abab", []int{0, 4, 3, 4}}, {"(ab?)*", "abaab", []int{0, 5, 3, 5}}, {"(a|(b))*", "ba", []int{0, 2, 1, 2, 0, 1}}, {"(a(b)?)+", "aba", []int{0, 3, 2, 3, 1, 2}}, {"((a)|(b))+", "ab", []int{0, 2, 1, 2, 0, 1, 1, 2}}, {"((a)*b)*", "aabb", []int{0, 4, 3, 4, 1, 2}}, {"(?:(a)|(b))*c", "abac", []int{0, 4, 2, 3, 1, 2}}, {"((a)(b)?)*", "aba", []int{0, 3, 2, 3, 2, 3, 1, 2}},
		// under a repetition, and of no byte
		{"(a*)*", "aa", []int{0, 2, 0, 2}}, {"(a*)*", "b", []int{0, 0, -1, -1}}, {"(a*)+", "b", []int{0, 0, 0, 0}}, {"(a*)+", "aa", []int{0, 2, 0, 2}}, {"(|a)*", "aa", []int{0, 2, 1, 2}}, {"()*", "a", []int{0, 0, -1, -1}}, {"()+", "a", []int{0, 0, 0, 0}}, {"()*?", "a", []int{0, 0, -1, -1}}, {"(a??)*b", "aab", []int{0, 3, 1, 2}}, {"(^)*a", "a", []int{0, 1, -1, -1}}, {"(^)+a", "a", []int{0, 1, 0, 0}}, {"a($)*", "a", []int{0, 1, -1, -1}},
		// that only a path which has failed has recorded
		{"(?:(a)b|ac)", "ac", []int{0, 2, -1, -1}}, {"(?:(a)(b)c|(a)b)d", "abd", []int{0, 3, -1, -1, -1, -1, 0, 1}}, {"((a)b)?a", "aa", []int{0, 1, -1, -1, -1, -1}}, {"(?:(a)x|(b)y)*b", "axb", []int{0, 3, 0, 1, -1, -1}}, {"(?:(a)$)?", "ab", []int{0, 0, -1, -1}}, {"(?:()$|a)b", "ab", []int{0, 2, -1, -1}}, {"(?:()b)?a", "a", []int{0, 1, -1, -1}}, {"(?:(a+)c)?a*(b)", "aab", []int{0, 3, -1, -1, 2, 3}},
		// and where it was recorded before: that offset comes back
		{"(?:(a)|(b))*(?:(b)c)?", "ab", []int{0, 2, 0, 1, 1, 2, -1, -1}}, {"(?:(a)b?)*b", "aab", []int{0, 3, 1, 2}}, {"(?:(.)x)*", "axbxc", []int{0, 4, 2, 3}}, {"(?:(a*)(b))*.c", "abac", []int{0, 4, 0, 1, 1, 2}}, {"(?:(.)(.)(.)x)*.", "abcxdef", []int{0, 5, 0, 1, 1, 2, 2, 3}},
		// by a run that has failed
		{"(a)c|(b)", "ab", []int{1, 2, -1, -1, 1, 2}}, {"(a*)(c)?b", "aab", []int{0, 3, 0, 2, -1, -1}}, {"(a)?(b)c|(b)d", "abd", []int{1, 3, -1, -1, -1, -1, 1, 2}}, {"(?:(a)b)?c", "abdc", []int{3, 4, -1, -1}},
	} {
		finds(t, x.s, x.text, 0, x.want...)
	}
}

func TestNumberOfGroups(t *testing.T) {
	l := []rex.Inst{save(0), set("aa"), save(1), match()}
	for _, n := range []int{-1, -2, -512, -1024, math.MinInt, math.MinInt / 2, -1 << 32, most + 1, most + 2, 2 * most, math.MaxInt, math.MaxInt / 2, 1 << 32, 1 << 62} {
		answers(t, prog(n, l...), "a", 0)
		answers(t, prog(n, match()), "", 0)
		answers(t, prog(n, l...), "a", 2)
		if pike.Is(prog(n, l...), "a") {
			t.Error("something is found with", n, "groups")
		}
	}
	for _, n := range []int{0, 1, 2, 100, most - 1, most} {
		want := slices.Repeat([]int{-1}, 2*n+2)
		want[0], want[1] = 1, 2
		answers(t, prog(n, l...), "ba", 0, want...)
		answers(t, prog(n, l...), "ba", 2)
		// The last number that has a place, and the first one that has none
		want[0], want[1] = -1, -1
		want[2*n+1] = 1
		answers(t, prog(n, set("aa"), save(2*n+1), save(2*n+2), save(2*n+3), match()), "a", 0, want...)
		answers(t, prog(n, set("aa"), save(2*n+2), save(2*n+1), match()), "a", 0, want...)
	}
	for _, n := range []int{64, 500} {
		p := compiled(t, strings.Repeat("()", n/2)+"a"+strings.Repeat("()", n/2))
		want := []int{1, 2}
		for i := range n {
			want = append(want, 1+2*i/n, 1+2*i/n)
		}
		answers(t, p, "ba", 0, want...)
	}
	deep := compiled(t, strings.Repeat("(", 64)+"a"+strings.Repeat(")*", 64))
	answers(t, deep, "aaa", 0, slices.Concat([]int{0, 3}, slices.Repeat([]int{0, 3}, 63), []int{2, 3})...)
	holds(t, deep, "baab")
}

// P12.1: programs that Compile does not make

func TestForeignPrograms(t *testing.T) {
	for _, x := range []struct {
		p    rex.Prog
		text string
		want []int
	}{
		// no instruction, and no Match
		{prog(0), "", nil}, {prog(0), "ab", nil}, {prog(3), "ab", nil}, {prog(0, save(0)), "a", nil}, {prog(0, set("aa")), "a", nil}, {prog(0, set("aa"), set("bb")), "ab", nil}, {prog(0, begin()), "", nil}, {prog(0, end()), "", nil}, {prog(0, save(0), save(1)), "a", nil}, {prog(0, split(1, 1)), "a", nil}, {prog(0, jump(1)), "a", nil},
		// nothing recorded, or in another order, or more than once
		{prog(0, match()), "", []int{-1, -1}}, {prog(1, match()), "a", []int{-1, -1, -1, -1}}, {prog(0, match(), match()), "a", []int{-1, -1}}, {prog(0, save(1), set("aa"), save(0), match()), "ba", []int{2, 1}}, {prog(0, save(0), save(0), set("aa"), save(0), match()), "a", []int{1, -1}}, {prog(1, save(3), set("aa"), save(3), set("bb"), save(2), match()), "ab", []int{-1, -1, 2, 1}}, {prog(0, set("aa"), match()), "ba", []int{-1, -1}},
		// a Match within
		{prog(0, save(0), split(2, 3), match(), set("aa"), save(1), match()), "a", []int{0, -1}}, {prog(0, save(0), split(3, 2), match(), set("aa"), save(1), match()), "a", []int{0, 1}}, {prog(0, save(0), split(3, 2), match(), set("aa"), save(1), match()), "b", []int{0, -1}}, {prog(0, jump(2), match(), set("aa"), jump(1)), "a", []int{-1, -1}},
		// numbers that have no place
		{prog(0, save(-1), save(0), set("aa"), save(1), save(2), match()), "a", []int{0, 1}}, {prog(0, save(math.MinInt), save(math.MaxInt), save(0), save(1<<32), save(-1<<32), save(1<<62), save(-2), match()), "a", []int{0, -1}}, {prog(1, save(4), save(5), save(-1), save(3), match()), "a", []int{-1, -1, -1, 0}}, {prog(0, split(1, 3), save(-1), set("bb"), save(2), set("aa"), save(1), match()), "a", []int{-1, 1}}, {prog(0, save(2), save(3), match()), "a", []int{-1, -1}},
		// another Op
		{prog(0, other(0), match()), "a", nil}, {prog(0, other(8), match()), "a", nil}, {prog(0, other(-1), match()), "a", nil}, {prog(0, other(math.MaxInt), match()), "a", nil}, {prog(0, other(math.MinInt), match()), "a", nil}, {prog(0, other(1<<32+rex.Match), match()), "a", nil}, {prog(0, other(256+rex.Jump), match()), "a", nil}, {prog(0, other(-rex.Match), match()), "a", nil}, {prog(0, save(0), split(2, 3), other(9), save(1), match()), "a", []int{0, 0}}, {prog(0, set("aa"), other(0), match()), "aa", nil}, {prog(0, set("aa"), split(2, 3), other(0), match()), "a", []int{-1, -1}},
		// an index outside of the program
		{prog(0, jump(-1), match()), "a", nil}, {prog(0, jump(2), match()), "a", nil}, {prog(0, jump(math.MaxInt), match()), "a", nil}, {prog(0, jump(math.MinInt), match()), "a", nil}, {prog(0, jump(1<<32+1), match()), "a", nil}, {prog(0, jump(-1<<32+1), match()), "a", nil},
		{prog(0, split(-1, 1), match()), "a", []int{-1, -1}}, {prog(0, split(2, 1), match()), "a", []int{-1, -1}}, {prog(0, split(math.MinInt, 1), match()), "a", []int{-1, -1}}, {prog(0, split(math.MaxInt, 1), match()), "a", []int{-1, -1}}, {prog(0, split(1, -1), match()), "a", []int{-1, -1}}, {prog(0, split(1, math.MaxInt), match()), "a", []int{-1, -1}}, {prog(0, split(-1, 2), match()), "a", nil}, {prog(0, split(2, -1), match()), "a", nil}, {prog(0, split(-1, -1), match()), "a", nil}, {prog(0, split(math.MaxInt, math.MinInt), match()), "a", nil}, {prog(0, save(0), set("aa"), split(-7, 3), save(1), match()), "ba", []int{1, 2}},
		// a last instruction that goes on with the next one, beside a way that leads to a Match
		{prog(0, split(2, 1), match(), set("aa")), "a", []int{-1, -1}}, {prog(0, split(2, 1), match(), save(0)), "a", []int{-1, -1}}, {prog(0, save(0), split(3, 2), match(), begin()), "a", []int{0, -1}}, {prog(0, save(0), split(3, 2), match(), end()), "", []int{0, -1}}, {prog(0, save(0), split(3, 2), match(), jump(4)), "a", []int{0, -1}}, {prog(0, save(0), split(3, 2), match(), split(4, 4)), "a", []int{0, -1}},
		// circles
		{prog(0, jump(0)), "a", nil}, {prog(0, jump(1), jump(0)), "a", nil}, {prog(0, split(0, 0)), "a", nil}, {prog(0, split(0, 1), match()), "a", []int{-1, -1}}, {prog(0, split(1, 0), match()), "a", []int{-1, -1}}, {prog(0, split(1, 2), jump(0), match()), "a", []int{-1, -1}}, {prog(0, split(1, 2), split(0, 1), match()), "a", []int{-1, -1}}, {prog(0, save(0), jump(0)), "a", nil}, {prog(0, save(0), split(0, 2), save(1), match()), "a", []int{0, 0}}, {prog(0, begin(), jump(0)), "", nil}, {prog(0, end(), jump(0)), "", nil}, {prog(0, split(1, 3), save(0), jump(0), match()), "a", []int{-1, -1}}, {prog(0, split(3, 1), save(0), jump(0), match()), "a", []int{-1, -1}}, {prog(0, split(1, 3), split(2, 0), jump(1), match()), "a", []int{-1, -1}},
		// circles that consume
		{prog(0, set("aa"), jump(0)), "aaa", nil}, {prog(0, save(0), set("aa"), split(0, 3), match()), "aaa", []int{2, -1}}, {prog(0, save(0), set("aa"), split(3, 0), save(1), match()), "aaa", []int{0, 1}}, {prog(0, save(0), split(0, 2), set("aa"), split(1, 4), save(1), match()), "aaa", []int{0, 3}}, {prog(0, split(0, 1), set("aa"), split(0, 3), save(1), match()), "aab", []int{-1, 2}}, {prog(0, set("aa"), split(1, 2), save(1), end(), jump(5), match()), "aa", []int{-1, 2}},
		// Pairs
		{prog(0, set("a"), match()), "a", nil}, {prog(0, set(""), match()), "a", nil}, {prog(0, set("aab"), match()), "b", nil}, {prog(0, set("aab"), match()), "a", []int{-1, -1}}, {prog(0, save(0), set("acx"), save(1), match()), "xc", []int{1, 2}}, {prog(0, set("ca"), match()), "abc", nil}, {prog(0, save(0), set("caxx"), save(1), match()), "ax", []int{1, 2}}, {prog(0, save(0), set("xxaa"), save(1), match()), "a", []int{0, 1}}, {prog(0, save(0), set("\x00\xff"), save(1), match()), "\xff", []int{0, 1}},
		// Begin and End behind bytes
		{prog(0, save(0), set("aa"), begin(), save(1), match()), "aa", nil}, {prog(0, end(), save(0), match()), "aa", []int{2, -1}}, {prog(0, end(), set("aa"), match()), "aa", nil}, {prog(0, begin(), end(), save(0), match()), "", []int{0, -1}},
		// what an Op does not speak of
		{prog(0, rex.Inst{Op: rex.Jump, X: 1, Y: 9, Pairs: "bb"}, rex.Inst{Op: rex.Save, Y: 1, Pairs: "bb"}, rex.Inst{Op: rex.Set, X: 9, Y: 9, Pairs: "aa"}, rex.Inst{Op: rex.End, X: 9, Y: -1, Pairs: "bb"}, rex.Inst{Op: rex.Match, X: -1, Y: 9, Pairs: "bb"}), "aa", []int{1, -1}}, {prog(0, rex.Inst{Op: rex.Begin, X: 1, Y: 1, Pairs: "bb"}, rex.Inst{Op: rex.Split, X: 2, Y: 2, Pairs: "bb"}, match()), "a", []int{-1, -1}},
	} {
		answers(t, x.p, x.text, 0, x.want...)
		holds(t, x.p, x.text)
	}
}

func TestShortPrograms(t *testing.T) {
	texts := textsOf("ab", 2)
	all := []rex.Inst{set("aa"), set("bb"), set("abc"), save(-1), save(0), save(1), save(2), begin(), end(), match(), other(0), other(8)}
	for x := -1; x <= 3; x++ {
		all = append(all, jump(x))
		for y := -1; y <= 3; y++ {
			all = append(all, split(x, y))
		}
	}
	for n := range 4 {
		programsOf(n, all, func(l []rex.Inst) {
			for _, s := range texts {
				holds(t, prog(0, l...), s)
			}
		})
	}
	few := []rex.Inst{set("aa"), set("ab"), save(0), save(1), match(), end(), jump(0), jump(1), split(0, 2), split(1, 0), split(1, 3), split(2, 3), split(3, 1), split(3, 4), split(4, 2)}
	programsOf(4, few, func(l []rex.Inst) {
		for _, s := range []string{"", "a", "ab", "baa"} {
			holds(t, prog(0, l...), s)
		}
	})
}

func TestScatteredPrograms(t *testing.T) {
	d := dice{seed: 12}
	good := 0
	for range 40000 {
		p := prog(d.upTo(4), d.program(1+d.upTo(14))...)
		s := d.text("abc", 8)
		holds(t, p, s)
		if l := findOf(p, s, 0); l != nil && slices.Max(l) > 0 {
			good++
		}
	}
	if good < 5000 {
		t.Error("no more than", good, "of the programs have recorded a place behind the first one")
	}
	for range 100 {
		holds(t, prog(d.upTo(30), d.program(300)...), d.text("ab", 60))
	}
}

// P12.1: every short text, and many expressions

func TestShortTexts(t *testing.T) {
	texts := textsOf("ab", 6)
	for _, s := range []string{
		"(a|ab)(c|bcd)?", "(a|b)*?b", "(a*)*b", "(a*?)*?b", "(a+)+$", "(|a)+b", "(a|ab|ba)*", "(?:(a)|(b))*", "^(a*)(b*)$", "(a??)(b*?)$", "((a)|b)*(ab)?", "(?:a(b)?)+?(?:b|$)", "(a(b(a)?)?)*", "(?:a?)*?b(a|$)", "(^a|b)*", "(a|$)(b|^)?", "a*(a)?b", "(b*|a)+?ab", "()(a|())b*", "(?:|(a))(?:|(b))$",
	} {
		for _, text := range texts {
			holds(t, compiled(t, s), text)
		}
	}
	expressions := textsOf("(a)*?|b", 5)
	few := textsOf("ab", 3)
	for _, s := range expressions {
		p, err := rex.Compile(s)
		for _, text := range few {
			if err == api.OK {
				holds(t, p, text)
			}
		}
	}
}

func TestScatteredExpressions(t *testing.T) {
	d := dice{seed: 21}
	good := 0
	for range 20000 {
		p, err := rex.Compile(d.expression(3))
		if err != api.OK {
			continue // a | ahead of a repetition, or one behind another
		}
		good++
		holds(t, p, d.text("abc\n", 10))
	}
	if good < 5000 {
		t.Error("no more than", good, "of the expressions are such")
	}
}

func TestOtherEngine(t *testing.T) {
	d := dice{seed: 7}
	found := 0
	for range 20000 {
		s, text := d.tame(2), d.text("abc\n", 12)
		p, err := rex.Compile(s)
		if err != api.OK {
			continue // too long
		}
		want := regexp.MustCompile(s).FindStringSubmatchIndex(text)
		answers(t, p, text, 0, want...)
		if len(want) > 2 {
			found++
		}
	}
	if found < 5000 {
		t.Error("no more than", found, "of the expressions have found a place")
	}
}

func TestIs(t *testing.T) {
	for _, x := range []struct {
		s, text string
		want    bool
	}{
		{"a", "a", true}, {"a", "bba", true}, {"a", "b", false}, {"a", "", false}, {"", "", true}, {"", "a", true}, {"^b", "ab", false}, {"^a", "ab", true}, {"b$", "ab", true}, {"a$", "ab", false}, {"^ab$", "ab", true}, {"^ab$", "abb", false}, {"(a|ab)(c|bcd)", "abcd", true}, {"(a|ab)(c|bcd)", "abdc", false}, {`^web\.[0-9]+\.cpu$`, "web.12.cpu", true}, {`^web\.[0-9]+\.cpu$`, "web.1a.cpu", false},
	} {
		if got := pike.Is(compiled(t, x.s), x.text); got != x.want {
			t.Errorf("Is of %q in %q is %t", x.s, x.text, got)
		}
	}
	for _, p := range []rex.Prog{prog(0), prog(-1, match()), prog(most+1, match()), prog(0, jump(0)), prog(0, other(8)), {}} {
		if pike.Is(p, "") || pike.Is(p, "a") {
			t.Errorf("Is of %+v is true", p)
		}
	}
	if !pike.Is(prog(most, match()), "") {
		t.Error("Is of a Match is false")
	}
}

func TestGroup(t *testing.T) {
	const text = "abcdef"
	for _, x := range []struct {
		places []int
		k      int
		want   string
	}{
		{[]int{0, 4, 0, 1, 1, 4}, 0, "abcd"}, {[]int{0, 4, 0, 1, 1, 4}, 1, "a"}, {[]int{0, 4, 0, 1, 1, 4}, 2, "bcd"}, {[]int{0, 6}, 0, text}, {[]int{5, 6}, 0, "f"}, {[]int{2, 4}, 0, "cd"}, {[]int{9, 9, -1, 3, 1, 2}, 2, "b"},
		// elements that do not exist
		{[]int{0, 4, 0, 1, 1, 4}, 3, ""}, {[]int{0, 4}, 1, ""}, {[]int{0, 4}, 2, ""}, {[]int{0, 4}, -1, ""}, {[]int{0, 4}, -2, ""}, {nil, 0, ""}, {nil, 1, ""}, {nil, -1, ""}, {[]int{}, 0, ""}, {[]int{0, 4}, math.MinInt, ""}, {[]int{0, 4}, math.MaxInt, ""}, {[]int{0, 4}, math.MaxInt/2 + 1, ""}, {[]int{0, 4}, math.MaxInt / 2, ""}, {[]int{0, 4}, math.MinInt / 2, ""}, {[]int{0, 4}, 1 << 32, ""}, {[]int{0, 4}, -1 << 31, ""},
		// one of the two alone
		{[]int{0}, 0, ""}, {[]int{0, 4, 1}, 1, ""}, {[]int{0, 4, 1}, 0, "abcd"}, {[]int{0, 4, 1, 2, 3}, 2, ""}, {[]int{0, 4, 1, 2, 3}, 1, "b"},
		// elements out of range, or in the wrong order
		{[]int{-1, -1}, 0, ""}, {[]int{-1, 3}, 0, ""}, {[]int{3, -1}, 0, ""}, {[]int{0, 7}, 0, ""}, {[]int{7, 7}, 0, ""}, {[]int{6, 7}, 0, ""}, {[]int{7, 3}, 0, ""}, {[]int{3, 2}, 0, ""}, {[]int{6, 0}, 0, ""}, {[]int{math.MinInt, math.MaxInt}, 0, ""}, {[]int{math.MaxInt, math.MinInt}, 0, ""}, {[]int{0, math.MaxInt}, 0, ""}, {[]int{math.MinInt, 3}, 0, ""}, {[]int{1 << 32, 1<<32 + 1}, 0, ""}, {[]int{-7, -6}, 0, ""},
		// both the same
		{[]int{0, 0}, 0, ""}, {[]int{3, 3}, 0, ""}, {[]int{6, 6}, 0, ""},
	} {
		groupIs(t, text, x.places, x.k, x.want)
	}
	groupIs(t, "", nil, 0, "")
	groupIs(t, "", []int{0, 0}, 0, "")
	groupIs(t, "", []int{0, 1}, 0, "")
	groupIs(t, "a\x00\xffb", []int{1, 3}, 0, "\x00\xff")
	for _, s := range textsOf("ab", 3) {
		for first := -2; first <= 5; first++ {
			for second := -2; second <= 5; second++ {
				for k := -2; k <= 3; k++ {
					places := []int{first, second, second, first, 1}
					groupIs(t, s, places, k, groupOf(s, places, k))
				}
			}
		}
	}
	p := compiled(t, `(\w+)\.(\d*)(x)?`)
	places, _ := pike.Find(p, "..web.12", 0)
	for k, want := range []string{"web.12", "web", "12", "", ""} {
		groupIs(t, "..web.12", places, k, want)
	}
}

// P12.2: steps

func TestSteps(t *testing.T) {
	inGoodTime(t, func() {
		text := strings.Repeat("a", 5000)
		for _, s := range []string{
			"(a*)*b", "((a*)*)*b", "(a+)+b", "(a|a)*b", "(a|a|a|aa)*b", "(a?)*b", "(?:a*a*a*a*a*a*)*b", "(a*?)*?b", "((a+?)+?)+?b", "(.*)(.*)(.*)(.*)(.*)b", strings.Repeat("(?:", 60) + "a" + strings.Repeat(")*", 60) + "b", strings.Repeat("(?:", 60) + "a" + strings.Repeat("|a)+?", 60) + "b", "(a|aa)+$b",
		} {
			answers(t, compiled(t, s), text, 0)
		}
		n := 200
		optional := compiled(t, "^"+strings.Repeat("a?", n)+strings.Repeat("a", n)+"$")
		answers(t, optional, strings.Repeat("a", n), 0, 0, n)
		answers(t, optional, strings.Repeat("a", 2*n), 0, 0, 2*n)
		answers(t, optional, strings.Repeat("a", 2*n+1), 0)
		answers(t, compiled(t, "((a*)*)*$"), text, 0, 0, 5000, 0, 5000, 0, 5000)
		answers(t, compiled(t, "(?:(a)|(b))*"), strings.Repeat("ab", 1<<19), 0, 0, 1<<20, 1<<20-2, 1<<20-1, 1<<20-1, 1<<20)
		answers(t, compiled(t, strings.Repeat("(a)?", 250)+"b"), text, 0)
	})
}

// A set that takes a thousandth of a second: more steps than there are instructions and offsets would take minutes.
func TestStepsOfOneSet(t *testing.T) {
	slow := set(strings.Repeat("ba", 1<<20) + "aa")
	n := 3000
	l := []rex.Inst{save(0)}
	for i := range n {
		l = append(l, split(n+1, i+2)) // each of them leads to the set
	}
	l = append(l, slow, end(), match())
	inGoodTime(t, func() {
		answers(t, prog(0, l...), strings.Repeat("a", 10), 0, 9, -1)
		// The set is reached once more by each path that has consumed a byte.
		l[n+2] = jump(0)
		answers(t, prog(0, l...), strings.Repeat("a", 10), 0)
	})
}

func TestLongPrograms(t *testing.T) {
	n := 1 << 20
	chains := [][]rex.Inst{nil, nil, nil, nil, nil}
	for i := range n {
		chains[0] = append(chains[0], split(i+1, i+1))
		chains[1] = append(chains[1], split(-1, i+1))
		chains[2] = append(chains[2], save(i%2))
		chains[3] = append(chains[3], split(i+1, n))
		chains[4] = append(chains[4], jump(i+1))
	}
	inGoodTime(t, func() {
		for i, l := range chains {
			first, second := []int{-1, -1}, []int{-1, -1}
			if i == 2 {
				first, second = []int{0, 0}, []int{1, 1}
			}
			answers(t, prog(0, append(l, match())...), "aaa", 0, first...)
			answers(t, prog(0, append(l, jump(0))...), "aaa", 0)
			answers(t, prog(0, append(l, set("aa"), match())...), "baa", 0, second...)
		}
		answers(t, prog(0), strings.Repeat("a", 1<<22), 0)
		answers(t, prog(0, save(0), set("bb"), match()), strings.Repeat("a", 1<<22)+"b", 0, 1<<22, -1)
	})
}

// P12.2: results

var samples = []struct{ s, text string }{{"(a|ab)(c|bcd)", "abcd"}, {"", "a"}, {"(a)|(b)", "ba"}, {"((a*)*)*", "aaa"}, {"c", "ab"}, {"a$", "aa"}, {"()()()", ""}, {"(a)?b", "b"}}

func TestResultsShareNoMemory(t *testing.T) {
	var results [][]int
	for range 3 {
		for _, x := range samples {
			l, _ := pike.Find(compiled(t, x.s), x.text, 0)
			results = append(results, l)
		}
	}
	for i := range results {
		for j := range i {
			if meet(results[i], results[j]) {
				t.Error("two results have a place of memory in common")
			}
		}
	}
	// What is done to one is not seen in another, nor in a later one.
	for i, l := range results {
		_ = append(l, 99)
		for j := range l {
			l[j] = 99
		}
		for k, other := range results[i+1:] {
			x := samples[(i+1+k)%len(samples)]
			if want := findOf(compiled(t, x.s), x.text, 0); !slices.Equal(other, want) {
				t.Errorf("the places of %q in %q have become %v", x.s, x.text, other)
			}
		}
		for _, x := range samples {
			holds(t, compiled(t, x.s), x.text)
		}
	}
}

func TestArgumentsAreNeitherChangedNorKept(t *testing.T) {
	for _, x := range samples {
		p := compiled(t, x.s)
		room := append(slices.Clone(p.L), other(8), other(9))
		p.L = room[:len(p.L)]
		before := slices.Clone(room)
		b := []byte(x.text)
		places, _ := pike.Find(p, over(b), 0)
		pike.Is(p, over(b))
		if !slices.Equal(room, before) || string(b) != x.text {
			t.Errorf("Find of %q in %q has changed them", x.s, x.text)
		}
		want := findOf(p, x.text, 0)
		group := pike.Group(over(b), places, 0)
		wantGroup := groupOf(x.text, want, 0)
		if !slices.Equal(places, want) {
			t.Errorf("Group has changed the places of %q to %v", x.s, places)
		}
		clear(room)
		clear(b)
		if !slices.Equal(places, want) || group != wantGroup {
			t.Errorf("Find of %q, or Group, has changed since: %v, %q", x.s, places, group)
		}
	}
	places := make([]int, 2, 4)
	places[1] = 2
	pike.Group("ab", places, 1)
	if !slices.Equal(places[:4], []int{0, 2, 0, 0}) {
		t.Error("Group has changed its places to", places[:4])
	}
}

func TestGroupsAreNewTexts(t *testing.T) {
	const text = "abcd"
	var l []string
	for range 2 {
		for k := range 3 {
			l = append(l, pike.Group(text, []int{0, 4, 0, 1, 1, 4}, k))
		}
	}
	l = append(l, text)
	for i, a := range l {
		for _, b := range l[:i] {
			first, second := uintptr(unsafe.Pointer(unsafe.StringData(a))), uintptr(unsafe.Pointer(unsafe.StringData(b)))
			if first < second+uintptr(len(b)) && second < first+uintptr(len(a)) {
				t.Errorf("%q and %q have a byte of memory in common", a, b)
			}
		}
	}
}

func TestResultsDependOnTheirArgumentsAlone(t *testing.T) {
	foreign := []rex.Prog{prog(0), prog(-1, match()), prog(most, match()), prog(0, jump(0)), prog(2, split(0, 1), other(3)), compiled(t, "(.*)(.*)(.*)")}
	for _, p := range foreign {
		pike.Find(p, strings.Repeat("ab", 100), 3)
		for _, x := range samples {
			holds(t, compiled(t, x.s), x.text)
		}
	}
	var programs []rex.Prog
	for _, x := range samples {
		programs = append(programs, compiled(t, x.s))
	}
	done := make(chan bool)
	for range 8 {
		go func() {
			ok := true
			for range 100 {
				for i, x := range samples {
					l, found := pike.Find(programs[i], x.text, 0)
					want := findOf(programs[i], x.text, 0)
					ok = ok && found == (want != nil) && slices.Equal(l, want) && pike.Is(programs[i], x.text) == found && pike.Group(x.text, l, 0) == groupOf(x.text, want, 0)
				}
			}
			done <- ok
		}()
	}
	for range 8 {
		if !<-done {
			t.Error("a call beside others has another answer")
		}
	}
}
