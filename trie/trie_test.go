package trie_test

import (
	"fmt"
	"slices"
	"strconv"
	"strings"
	"testing"
	"unsafe"

	"graticule/api"
	"graticule/glob"
	"graticule/trie"
)

func TestGivenLimits(t *testing.T) {
	if api.MaxText != longest || api.MaxSeries != many || api.MaxParts != most || api.MaxName != longSum {
		t.Error("the limits are others:", api.MaxText, api.MaxSeries, api.MaxParts, api.MaxName)
	}
}

// noNames are texts that are no names.
func noNames() []string {
	return []string{"", ".", "..", "a.", ".a", "a..b", ".a.b", "a.b.", "a b", " a", "a/b", "a.*", "*", "a?", "a.[b]", "{a}", "a,b", "a\x00", "\xff", "é", "a.b\n",
		row("a", most+1), row("a", 1000), strings.Repeat("a", longSum+1), row("a", most) + "." + row("a", most), strings.Repeat("abc.", 50) + "a", strings.Repeat(".", 1<<20), strings.Repeat("a", 1<<20)}
}

// P10.1: New

func TestNew(t *testing.T) {
	for _, x := range []struct{ given, want []string }{
		{nil, nil},
		{[]string{}, nil},
		{[]string{"a"}, []string{"a"}},
		{[]string{"a.b.c"}, []string{"a.b.c"}},
		{[]string{"a", "b", "c"}, []string{"a", "b", "c"}},
		{[]string{"c", "b", "a"}, []string{"a", "b", "c"}},
		{[]string{"a", "a"}, []string{"a"}},
		{[]string{"a.b", "a", "a.b", "a", "a.b"}, []string{"a", "a.b"}},
		{[]string{"a.b", "a.b.c", "a"}, []string{"a", "a.b", "a.b.c"}},
		{[]string{""}, nil},
		{[]string{"a..b"}, nil},
		{[]string{"", "a", "a..b", "b", "*", "c."}, []string{"a", "b"}},
		{[]string{"a b", "a", "a b", "a", ""}, []string{"a"}},
		{noNames(), nil},
		{slices.Concat(noNames(), []string{"a.b"}, noNames()), []string{"a.b"}},
		{[]string{row("a", most), row("a", most+1), strings.Repeat("b", longSum), strings.Repeat("b", longSum+1)}, []string{row("a", most), strings.Repeat("b", longSum)}},
	} {
		isSet(t, trie.New(x.given...), x.want...)
	}
}

// orders are all orders of a list.
func orders(l []string) [][]string {
	if len(l) == 0 {
		return [][]string{nil}
	}
	var all [][]string
	for _, o := range orders(l[1:]) {
		for i := range len(o) + 1 {
			all = append(all, slices.Insert(slices.Clone(o), i, l[0]))
		}
	}
	return all
}

func TestNewInAnyOrder(t *testing.T) {
	want := []string{"a", "a.b", "a.b.c", "a-b", "b.c"}
	for _, l := range orders([]string{"a", "a.b", "a.b.c", "a-b", "b.c", ""}) {
		x := trie.New(l...)
		isSet(t, x, want...)
		finds(t, x, "{b.*,*,a.b}", branch("a"), leaf("a"), branch("a.b"), leaf("a.b"), leaf("a-b"), branch("b"), leaf("b.c"))
		if t.Failed() {
			t.Fatalf("that is of %q", l)
		}
	}
}

func TestNewOfMany(t *testing.T) {
	var l []string
	for i := range 3000 {
		s := strconv.Itoa(i)
		l = append(l, strings.Join(strings.Split(s, ""), "."))
	}
	want := modelOf(l...).list()
	d := dice{1}
	for range 3 {
		x := trie.New(append(d.mixed(l), d.mixed(l)[:1000]...)...)
		if !slices.Equal(x.Names(), want) || x.Len() != 3000 {
			t.Errorf("Names() are %q (%d)", few(x.Names()), x.Len())
		}
	}
}

// P10.1: Insert

func TestInsert(t *testing.T) {
	x := trie.New()
	isSet(t, x)
	inserts(t, x, "b.c", api.OK)
	isSet(t, x, "b.c")
	inserts(t, x, "b.c", api.OK)
	isSet(t, x, "b.c")
	inserts(t, x, "b", api.OK)
	isSet(t, x, "b", "b.c")
	inserts(t, x, "b", api.OK)
	isSet(t, x, "b", "b.c")
	inserts(t, x, "a.z", api.OK)
	isSet(t, x, "a.z", "b", "b.c")
	inserts(t, x, "b.c.d.e", api.OK)
	isSet(t, x, "a.z", "b", "b.c", "b.c.d.e")
	inserts(t, x, "b.c.d.e", api.OK)
	isSet(t, x, "a.z", "b", "b.c", "b.c.d.e")
	inserts(t, x, "b.c.d", api.OK)
	isSet(t, x, "a.z", "b", "b.c", "b.c.d", "b.c.d.e")
}

func TestInsertOfWhatIsNoName(t *testing.T) {
	for _, names := range [][]string{nil, {"a"}, {"a.b", "b.a"}, {row("a", most), strings.Repeat("a", longSum)}} {
		x := trie.New(names...)
		for _, s := range noNames() {
			inserts(t, x, s, api.ErrName)
			has(t, x, s, false)
			removes(t, x, s, false)
		}
		isSet(t, x, modelOf(names...).list()...)
	}
}

func TestInsertOfEachByte(t *testing.T) {
	const may = "abcdefghijklmnopqrstuvwxyzABCDEFGHIJKLMNOPQRSTUVWXYZ0123456789_-:#%@="
	for c := range 256 {
		b := string([]byte{byte(c)})
		for _, s := range []string{b, "a" + b, b + "a", "x.y" + b + "z.w"} {
			want := api.ErrName
			if strings.Contains(may, b) || b == "." && len(s) > 2 {
				want = api.OK
			}
			x := trie.New()
			inserts(t, x, s, want)
			has(t, x, s, want == api.OK)
			if want == api.OK {
				isSet(t, x, s)
			} else {
				isSet(t, x)
			}
		}
	}
}

func TestInsertAtTheLimits(t *testing.T) {
	x := trie.New()
	deep, long := row("a", most), strings.Repeat("b", longSum)
	both := row("ccccccccc", most) + "d" // of 200 bytes and 20 parts
	if len(both) != longSum {
		t.Fatal(len(both))
	}
	for _, s := range []string{deep, long, both} {
		inserts(t, x, s, api.OK)
	}
	isSet(t, x, deep, long, both)
	for _, s := range []string{deep + ".a", deep + ".", "a." + deep, long + "b", "b" + long, both + "d", row("c", most+1), row("cccc", 50)} {
		inserts(t, x, s, api.ErrName)
	}
	isSet(t, x, deep, long, both)
	finds(t, x, row("*", most), leaf(deep), leaf(both))
	finds(t, x, row("*", most-1), branch(row("a", most-1)), branch(row("ccccccccc", most-1)))
	for _, s := range []string{both, deep, long} {
		removes(t, x, s, true)
	}
	isSet(t, x)
}

// P10.1: Remove

func TestRemove(t *testing.T) {
	x := trie.New("a", "a.b", "a.b.c.d", "b.c", "d")
	removes(t, x, "e", false)
	removes(t, x, "a.c", false)
	removes(t, x, "a.b.c.d.e", false)
	removes(t, x, "d.a", false)
	removes(t, x, "b", false)
	removes(t, x, "a.b.c", false)
	isSet(t, x, "a", "a.b", "a.b.c.d", "b.c", "d")
	removes(t, x, "d", true)
	isSet(t, x, "a", "a.b", "a.b.c.d", "b.c")
	removes(t, x, "d", false)
	isSet(t, x, "a", "a.b", "a.b.c.d", "b.c")
	removes(t, x, "a", true)
	isSet(t, x, "a.b", "a.b.c.d", "b.c")
	removes(t, x, "a", false)
	isSet(t, x, "a.b", "a.b.c.d", "b.c")
	removes(t, x, "a.b", true)
	isSet(t, x, "a.b.c.d", "b.c")
	removes(t, x, "b.c", true)
	isSet(t, x, "a.b.c.d")
	removes(t, x, "a.b.c.d", true)
	isSet(t, x)
	removes(t, x, "a.b.c.d", false)
	isSet(t, x)
}

// What lies behind a name stays, and what lies ahead of it.
func TestRemoveOfANameThatIsABranch(t *testing.T) {
	x := trie.New("a", "a.b", "a.b.c")
	finds(t, x, "{*,*.*,*.*.*}", branch("a"), leaf("a"), branch("a.b"), leaf("a.b"), leaf("a.b.c"))
	removes(t, x, "a.b", true)
	finds(t, x, "{*,*.*,*.*.*}", branch("a"), leaf("a"), branch("a.b"), leaf("a.b.c"))
	isSet(t, x, "a", "a.b.c")
	inserts(t, x, "a.b", api.OK)
	isSet(t, x, "a", "a.b", "a.b.c")
	removes(t, x, "a.b.c", true)
	finds(t, x, "{*,*.*,*.*.*}", branch("a"), leaf("a"), leaf("a.b"))
	isSet(t, x, "a", "a.b")
}

func TestRemoveOfTheLastNameBehindABranch(t *testing.T) {
	for _, s := range []string{"a.b", "a.b.c", "a.b.c.d.e", row("a", most)} {
		x := trie.New("z", s)
		removes(t, x, s, true)
		isSet(t, x, "z")
		for n := 1; n <= most; n++ {
			finds(t, x, row("a", n))
			if n > 1 {
				finds(t, x, row("*", n))
			}
		}
		finds(t, x, "*", leaf("z"))
		inserts(t, x, s, api.OK)
		isSet(t, x, s, "z")
		finds(t, x, "*", branch("a"), leaf("z"))
	}
	x := trie.New("a.b.c", "a.b.d", "a.c")
	removes(t, x, "a.b.c", true)
	finds(t, x, "a.*", branch("a.b"), leaf("a.c"))
	removes(t, x, "a.b.d", true)
	finds(t, x, "a.*", leaf("a.c"))
	finds(t, x, "a", branch("a"))
	removes(t, x, "a.c", true)
	finds(t, x, "a")
	finds(t, x, "*")
	inserts(t, x, "a.b.d", api.OK)
	isSet(t, x, "a.b.d")
}

// P10.1: Has and Len

func TestHas(t *testing.T) {
	x := trie.New("a.b.c", "a.b", "b-c")
	for _, s := range []string{"a.b.c", "a.b", "b-c"} {
		has(t, x, s, true)
	}
	for _, s := range slices.Concat(noNames(), []string{"a", "b", "c", "a.b.d", "a.b.c.d", "a.c", "A.b", "a.B", "b", "b-", "b-c.a", "b.c", "ab", "a.bc", "a-b", "*", "a.*", "b?c", "a.{b}", "[a].b"}) {
		has(t, x, s, false)
	}
	isSet(t, x, "a.b", "a.b.c", "b-c")
	has(t, trie.New(), "a", false)
}

func TestLen(t *testing.T) {
	x := trie.New()
	for i := range 300 {
		if n := x.Len(); n != i {
			t.Fatalf("Len() is %d, not %d", n, i)
		}
		for range 2 {
			x.Insert("a." + strconv.Itoa(i))
			x.Insert("a.." + strconv.Itoa(i))
		}
	}
	for i := range 300 {
		if n := x.Len(); n != 300-i {
			t.Fatalf("Len() is %d, not %d", n, 300-i)
		}
		for range 2 {
			x.Remove("a." + strconv.Itoa(i))
			x.Remove("a")
		}
	}
	isSet(t, x)
}

// P10.1: Names

func TestNames(t *testing.T) {
	for _, want := range [][]string{
		nil,
		{"a.b", "a-b"},
		{"a", "a.b", "a.b.c", "a.c", "a-b", "ab"},
		{"a.z", "a#", "a%", "a-", "a0", "a:", "a=", "a@", "aA", "a_", "aa"},
		{"a.z.z", "a.z#", "a#.a", "a#b"},
		{"#", "%", "-", "0", "9", ":", "=", "@", "A", "Z", "_", "a", "z"},
		{"1", "10", "11", "2", "9", "A", "B", "a", "b"},
		{"a", "a.a", "a.a.a", "a.a.a.a", "a.a.b", "a.b", "b", "b.a"},
		{"a.a.z", "a.b", "a.b.a", "a.c.a"},
		{"servers.web.cpu", "servers.web-01.cpu", "servers.web-02.cpu", "servers-old.web.cpu"},
	} {
		d := dice{2}
		for range 5 {
			isSet(t, trie.New(d.mixed(want)...), want...)
		}
	}
}

// P10.2: errors

// broken are patterns with the errors that they are refused with.
func broken() map[string]api.Errno {
	return map[string]api.Errno{
		// those of what comes out
		"":                                      api.ErrSyntax,
		"{a":                                    api.ErrSyntax,
		"a}":                                    api.ErrSyntax,
		"a,b":                                   api.ErrSyntax,
		"{}":                                    api.ErrSyntax,
		"{a,}":                                  api.ErrSyntax,
		"a b":                                   api.ErrSyntax,
		"a/b":                                   api.ErrSyntax,
		"[":                                     api.ErrSyntax,
		"[]":                                    api.ErrSyntax,
		"[b-a]":                                 api.ErrSyntax,
		"a.[b.c]":                               api.ErrSyntax,
		"{*,a b}":                               api.ErrSyntax,
		"\xff":                                  api.ErrSyntax,
		strings.Repeat("a", longest+1):          api.ErrSyntax,
		strings.Repeat("*", longest+1):          api.ErrSyntax,
		strings.Repeat("{a,b}", 10):             api.ErrLimit,
		strings.Repeat("{*,b}.", 10):            api.ErrLimit,
		strings.Repeat("{a,b}", 10) + "..":      api.ErrLimit,
		strings.Repeat("{a, }", 10):             api.ErrLimit,
		"{a" + strings.Repeat(",a", many) + "}": api.ErrLimit,
		// those of its parts
		".":                             api.ErrSyntax,
		"..":                            api.ErrSyntax,
		"a.":                            api.ErrSyntax,
		".a":                            api.ErrSyntax,
		"a..b":                          api.ErrSyntax,
		"*..*":                          api.ErrSyntax,
		"*.":                            api.ErrSyntax,
		"a.{b,}":                        api.ErrSyntax,
		"{a,b..c}":                      api.ErrSyntax,
		"{b..c,a}":                      api.ErrSyntax,
		"{*,a.b.}":                      api.ErrSyntax,
		"{*,*.*,.*}":                    api.ErrSyntax,
		"{a,b}.{c,d}.{e,}":              api.ErrSyntax,
		row("a", most+1):                api.ErrSyntax,
		row("*", most+1):                api.ErrSyntax,
		"{*," + row("*", most+1) + "}":  api.ErrSyntax,
		"*{," + row(".a", most+1) + "}": api.ErrSyntax,
		strings.Repeat(".", longest):    api.ErrSyntax,
		strings.Repeat("{a,b}.", 9):     api.ErrSyntax,
		"{a" + strings.Repeat(",a", many-2) + ",a..}": api.ErrSyntax,
	}
}

func TestFindOfWhatIsNoPattern(t *testing.T) {
	wide := trie.New()
	for i := range many + 10 {
		wide.Insert("a" + strconv.Itoa(i))
	}
	for _, x := range []*trie.Trie{trie.New(), trie.New("a", "b", "a.b", "a.b.c", row("a", most)), wide} {
		want := x.Names()
		for pattern, err := range broken() {
			fails(t, x, pattern, err)
		}
		if !slices.Equal(x.Names(), want) {
			t.Errorf("Names() were %q, and now they are %q", few(want), few(x.Names()))
		}
	}
}

// The error of a pattern is asked ahead of how much is found.
func TestWhichErrorOfFindIsFirst(t *testing.T) {
	x := trie.New()
	for i := range many + 1 {
		x.Insert("a." + strconv.Itoa(i))
	}
	fails(t, x, "a.*", api.ErrLimit)
	fails(t, x, "{a.*,b..c}", api.ErrSyntax)
	fails(t, x, "{a.*,b c}", api.ErrSyntax)
	fails(t, x, "{a.*,a.}", api.ErrSyntax)
	fails(t, x, "{a.*,}", api.ErrSyntax)
	fails(t, x, "{a.*,"+row("b", most+1)+"}", api.ErrSyntax)
	fails(t, x, "{a.*,b}", api.ErrLimit)
	// More than comes out is refused ahead of what is wrong in it.
	fails(t, x, "{"+strings.Repeat("a..b,", many)+"a}", api.ErrLimit)
	fails(t, x, "{"+strings.Repeat("a..b,", many-1)+"a}", api.ErrSyntax)
	fails(t, x, "{"+strings.Repeat(" ,", many-1)+"a}", api.ErrSyntax)
}

// P10.2: what is found

func TestFind(t *testing.T) {
	x := trie.New("a", "a.b", "a.b.c", "a.bc", "a-b", "ab.c", "b.a.c", "c.b", "c0", "c1.x.y", "z.z.z.z")
	for _, c := range []struct {
		pattern string
		want    []api.Hit
	}{
		// plain
		{"a", []api.Hit{branch("a"), leaf("a")}},
		{"a.b", []api.Hit{branch("a.b"), leaf("a.b")}},
		{"a.b.c", leaves("a.b.c")},
		{"a-b", leaves("a-b")},
		{"b", []api.Hit{branch("b")}},
		{"z.z.z", []api.Hit{branch("z.z.z")}},
		{"z.z.z.z", leaves("z.z.z.z")},
		{"z.z.z.z.z", nil},
		{"d", nil},
		{"a.c", nil},
		{"A", nil},
		{"a.b.c.d", nil},
		{row("a", most), nil},
		// stars
		{"*", []api.Hit{branch("a"), leaf("a"), leaf("a-b"), branch("ab"), branch("b"), branch("c"), leaf("c0"), branch("c1"), branch("z")}},
		{"a*", []api.Hit{branch("a"), leaf("a"), leaf("a-b"), branch("ab")}},
		{"*b", []api.Hit{leaf("a-b"), branch("ab"), branch("b")}},
		{"a*b", []api.Hit{leaf("a-b"), branch("ab")}},
		{"*.*", []api.Hit{branch("a.b"), leaf("a.b"), leaf("a.bc"), leaf("ab.c"), branch("b.a"), leaf("c.b"), branch("c1.x"), branch("z.z")}},
		{"*.b", []api.Hit{branch("a.b"), leaf("a.b"), leaf("c.b")}},
		{"*.b*", []api.Hit{branch("a.b"), leaf("a.b"), leaf("a.bc"), leaf("c.b")}},
		{"a.*", []api.Hit{branch("a.b"), leaf("a.b"), leaf("a.bc")}},
		{"a.*.c", leaves("a.b.c")},
		{"*.*.c", leaves("a.b.c", "b.a.c")},
		{"*.*.*", []api.Hit{leaf("a.b.c"), leaf("b.a.c"), leaf("c1.x.y"), branch("z.z.z")}},
		{"*.*.*.*", leaves("z.z.z.z")},
		{"*.*.*.*.*", nil},
		{row("*", most), nil},
		{"**", []api.Hit{branch("a"), leaf("a"), leaf("a-b"), branch("ab"), branch("b"), branch("c"), leaf("c0"), branch("c1"), branch("z")}},
		{"*c*", []api.Hit{branch("c"), leaf("c0"), branch("c1")}},
		{"*d*", nil},
		// question marks
		{"?", []api.Hit{branch("a"), leaf("a"), branch("b"), branch("c"), branch("z")}},
		{"??", []api.Hit{branch("ab"), leaf("c0"), branch("c1")}},
		{"???", leaves("a-b")},
		{"a?b", leaves("a-b")},
		{"????", nil},
		{"?.b?", leaves("a.bc")},
		{"?.?.?", []api.Hit{leaf("a.b.c"), leaf("b.a.c"), branch("z.z.z")}},
		// classes
		{"[ab]", []api.Hit{branch("a"), leaf("a"), branch("b")}},
		{"[b-z]", []api.Hit{branch("b"), branch("c"), branch("z")}},
		{"c[0-9]", []api.Hit{leaf("c0"), branch("c1")}},
		{"a[-]b", leaves("a-b")},
		{"[a-c].[ab]", []api.Hit{branch("a.b"), leaf("a.b"), branch("b.a"), leaf("c.b")}},
		{"?[0-9].x.[y]", leaves("c1.x.y")},
		{"[*]", nil},
		// choices
		{"{a}", []api.Hit{branch("a"), leaf("a")}},
		{"{b,a}", []api.Hit{branch("a"), leaf("a"), branch("b")}},
		{"{c0,a-b,a.b.c,z}", []api.Hit{leaf("a.b.c"), leaf("a-b"), leaf("c0"), branch("z")}},
		{"{z,a}{.z,.b}", []api.Hit{branch("a.b"), leaf("a.b"), branch("z.z")}},
		{"{*,*.*.*.*,a.bc}", []api.Hit{branch("a"), leaf("a"), leaf("a.bc"), leaf("a-b"), branch("ab"), branch("b"), branch("c"), leaf("c0"), branch("c1"), branch("z"), leaf("z.z.z.z")}},
		{"a{,.b,.b.c}", []api.Hit{branch("a"), leaf("a"), branch("a.b"), leaf("a.b"), leaf("a.b.c")}},
		{"{x,y,q.q}", nil},
		// choices of which several find the same
		{"{a,a}", []api.Hit{branch("a"), leaf("a")}},
		{"{a,?,[a],a*}", []api.Hit{branch("a"), leaf("a"), leaf("a-b"), branch("ab"), branch("b"), branch("c"), branch("z")}},
		{"{*,a}.{b,*}", []api.Hit{branch("a.b"), leaf("a.b"), leaf("a.bc"), leaf("ab.c"), branch("b.a"), leaf("c.b"), branch("c1.x"), branch("z.z")}},
		{"{?.b.c,a.?.c,a.b.?,a.b.c}", leaves("a.b.c")},
		{"{*.b,a.*}", []api.Hit{branch("a.b"), leaf("a.b"), leaf("a.bc"), leaf("c.b")}},
		{"{a.*,*.b}.c", leaves("a.b.c")},
		{"{a.*.x,*.b.c}", leaves("a.b.c")},
		{"{a.x.c,*.b.x,c1.x.y}", leaves("c1.x.y")},
	} {
		finds(t, x, c.pattern, c.want...)
		agrees(t, x, modelOf(x.Names()...), c.pattern)
	}
}

func TestFindInAnEmptySet(t *testing.T) {
	emptied := trie.New("a.b.c", "a")
	emptied.Remove("a")
	emptied.Remove("a.b.c")
	for _, x := range []*trie.Trie{trie.New(), trie.New("", "a..b"), emptied} {
		for _, pattern := range []string{"a", "*", "*.*", "?", "a.b.c", "{a,*,b.?}", row("*", most), strings.Repeat("{a,b}", 9)} {
			finds(t, x, pattern)
		}
	}
}

// A part of one choice is not matched where another choice has led.
func TestFindKeepsChoicesApart(t *testing.T) {
	x := trie.New("a.x", "a.y", "b.x", "b.y", "ab.x", "ab.y")
	finds(t, x, "{a.x,b.y}", leaves("a.x", "b.y")...)
	finds(t, x, "{b.y,a.x}", leaves("a.x", "b.y")...)
	finds(t, x, "{a*.x,*b.y}", leaves("a.x", "ab.x", "ab.y", "b.y")...)
	finds(t, x, "{a,b.x}", branch("a"), leaf("b.x"))
	finds(t, x, "{a*,b.x}", branch("a"), branch("ab"), leaf("b.x"))
	finds(t, x, "{a.*,b}", leaf("a.x"), leaf("a.y"), branch("b"))
}

// As many parts are asked for, and no other number: neither ends early, nor goes on.
func TestFindAsManyParts(t *testing.T) {
	x := trie.New()
	for n := 1; n <= most; n++ {
		x.Insert(row("a", n))
	}
	for n := 1; n <= most; n++ {
		for _, pattern := range []string{row("a", n), row("*", n), row("?", n), row("[a]", n), strings.Repeat("a.", n-1) + "{a,*}", "{a,*}" + strings.Repeat(".*", n-1)} {
			if n == most {
				finds(t, x, pattern, leaf(row("a", n)))
			} else {
				finds(t, x, pattern, branch(row("a", n)), leaf(row("a", n)))
			}
		}
	}
	fails(t, x, row("*", most+1), api.ErrSyntax)
}

// every number of parts is found by one of the choices, and in one row.
func TestFindOfSeveralNumbersOfParts(t *testing.T) {
	x := trie.New("b", "b.a.a", "a.a.a.a", "a.b", "a-.a")
	for _, pattern := range []string{"{*,*.*,*.*.*,*.*.*.*}", "{*.*.*.*,*.*.*,*.*,*}", "{*.*,*}{,.*.*}", "*{.*{.*{.*,},},}", "{*,*.*,*,*.*.*,*.*.*.*,a,a.a.a}"} {
		finds(t, x, pattern, branch("a"), branch("a.a"), branch("a.a.a"), leaf("a.a.a.a"), leaf("a.b"), branch("a-"), leaf("a-.a"), branch("b"), leaf("b"), branch("b.a"), leaf("b.a.a"))
	}
}

// of so many names, branches and things that are both, all of them in that order below their branch.
func wideSet(names, branches, both int) (*trie.Trie, []api.Hit) {
	x := trie.New()
	var want []api.Hit
	for i := range names {
		s := fmt.Sprintf("w.a%04d", i)
		x.Insert(s)
		want = append(want, leaf(s))
	}
	for i := range branches {
		s := fmt.Sprintf("w.b%04d", i)
		x.Insert(s + ".x")
		x.Insert(s + ".y")
		want = append(want, branch(s))
	}
	for i := range both {
		s := fmt.Sprintf("w.c%04d", i)
		x.Insert(s + ".x")
		x.Insert(s)
		want = append(want, branch(s), leaf(s))
	}
	return x, want
}

func TestFindOfManyHits(t *testing.T) {
	for _, c := range []struct{ names, branches, both int }{
		{many - 1, 0, 0}, {many, 0, 0}, {many + 1, 0, 0}, {many + 2, 0, 0},
		{0, many, 0}, {0, many + 1, 0},
		{0, 0, many / 2}, {0, 0, many/2 + 1}, {1, 0, many / 2}, {0, 1, many / 2},
		{many - 2, 0, 1}, {many - 1, 0, 1}, {many, 0, 1}, {0, many - 2, 1}, {0, many - 1, 1},
		{many / 2, many / 2, 0}, {many / 2, many/2 + 1, 0}, {100, 100, 156}, {101, 100, 156}, {100, 101, 156}, {100, 100, 157},
		{0, 0, many}, {many, many, many}, {5000, 0, 0}, {0, 5000, 0},
	} {
		x, want := wideSet(c.names, c.branches, c.both)
		for _, pattern := range []string{"w.*", "*.*", "w.?*", "w.[a-c]*", "{*,w}.{*,[ac]*,b*}", "w.{c*,b*,a*}"} {
			if len(want) > many {
				fails(t, x, pattern, api.ErrLimit)
			} else {
				finds(t, x, pattern, want...)
			}
		}
		finds(t, x, "w", branch("w"))
		finds(t, x, "w.d*")
		finds(t, x, "*.a0000.x")
		if n := x.Len(); n != c.names+2*c.branches+2*c.both {
			t.Errorf("Len() is %d", n)
		}
	}
}

// What several choices find counts but once; what they find apart counts in all.
func TestFindOfManyHitsByChoices(t *testing.T) {
	x, want := wideSet(many, 0, 0)
	finds(t, x, "{w.*,w.*,*.*,w.a*}", want...)
	finds(t, x, "{"+strings.Repeat("w.*,", many-1)+"w.a*}", want...)
	fails(t, x, "{w.*,w}", api.ErrLimit)
	fails(t, x, "{w,w.*}", api.ErrLimit)
	x.Remove("w.a0000")
	finds(t, x, "{w.*,w}", slices.Concat([]api.Hit{branch("w")}, want[1:])...)
	x.Insert("w")
	fails(t, x, "{w.*,w}", api.ErrLimit)
	finds(t, x, "w.*", want[1:]...)
	x.Insert("w.a0000")
	finds(t, x, "w.*", want...)
	x.Insert("w.a9999")
	fails(t, x, "w.*", api.ErrLimit)
	finds(t, x, "w.a9*", leaf("w.a9999"))
}

// Just as many choices as may come out, each of which finds a name.
func TestFindByManyPlainChoices(t *testing.T) {
	x := trie.New()
	var l []string
	for i := range 4 * many {
		s := fmt.Sprintf("p.%04d.q", i)
		x.Insert(s)
		if i%4 == 0 {
			l = append(l, s[2:6])
		}
	}
	var want, above []api.Hit
	for _, s := range l {
		want = append(want, leaf("p."+s+".q"))
		above = append(above, branch("p."+s))
	}
	d := dice{3}
	for range 5 {
		finds(t, x, "p.{"+strings.Join(d.mixed(l), ",")+"}.q", want...)
		finds(t, x, "p.{"+strings.Join(d.mixed(l), ",")+"}.*", want...)
		finds(t, x, "p.{"+strings.Join(d.mixed(l), ",")+"}", above...)
		finds(t, x, "{"+strings.Join(d.mixed(l), ",")+"}.q")
	}
}

// Whatever their order, choices find the same.
func TestFindInAnyOrderOfChoices(t *testing.T) {
	x := trie.New("a", "a.b", "b.a", "b.b.c", "a-", "c")
	want := []api.Hit{branch("a"), leaf("a"), leaf("a.b"), leaf("a-"), branch("b"), leaf("b.a"), branch("b.b"), leaf("c")}
	for _, l := range orders([]string{"*", "a", "*.*", "b.[ab]", "?.b", "a.x"}) {
		finds(t, x, "{"+strings.Join(l, ",")+"}", want...)
	}
}

// all that can be made of a few names, and what each of these sets answers.
func TestAllSetsOfFewNames(t *testing.T) {
	universe := []string{"a", "a.a", "a.b", "a.b.a", "a-", "a-.a", "b.a", "b"}
	patterns := []string{"*", "a", "b", "a-", "?", "??", "a*", "*-", "[ab]", "[a-b]?", "*.*", "a.*", "*.a", "?.a", "a.b", "a-.*", "[b].?", "*.*.*", "a.b.a", "a.*.a", "*.b.*", "{a,b}", "{b,a.b}", "{*,*.*,*.*.*}", "{a,*}.{a,*}", "{a,a.b}.a", "a{,-}.a", "{*.a,a.*,a}", "c", "a.c", "a.b.c", "*.*.*.*", "a..b", "{a", "{*,.}"}
	for set := range 1 << len(universe) {
		m, x := model{}, trie.New()
		for i, s := range universe {
			if set>>i&1 == 1 {
				m.insert(s)
				inserts(t, x, s, api.OK)
			}
		}
		holds(t, x, m)
		for _, pattern := range patterns {
			agrees(t, x, m, pattern)
		}
		for _, s := range universe {
			there := m[s]
			removes(t, x, s, m.remove(s))
			has(t, x, s, false)
			holds(t, x, m)
			if there {
				m.insert(s)
				inserts(t, x, s, api.OK)
				holds(t, x, m)
			}
		}
		if t.Failed() {
			t.Fatalf("that is of %q", m.list())
		}
	}
}

func TestScripts(t *testing.T) {
	for seed := range uint64(60) {
		d := dice{seed}
		var start []string
		for range d.upTo(30) {
			start = append(start, d.text())
		}
		m, x := modelOf(start...), trie.New(start...)
		for range 300 {
			s := d.text()
			if l := m.list(); len(l) > 0 && d.upTo(2) == 0 {
				s = l[d.upTo(len(l))]
			}
			switch d.upTo(6) {
			case 0:
				inserts(t, x, s, m.insert(s))
			case 1, 2:
				removes(t, x, s, m.remove(s))
			case 3:
				has(t, x, s, m[s])
			case 4:
				agrees(t, x, m, d.pattern())
			default:
				if got, want := x.Names(), m.list(); !slices.Equal(got, want) || x.Len() != len(want) {
					t.Errorf("Names() are %q (%d), not %q", few(got), x.Len(), few(want))
				}
			}
			if t.Failed() {
				t.Fatalf("that is of the script %d, where %q are left", seed, m.list())
			}
		}
		holds(t, x, m)
	}
}

func TestScatteredPatterns(t *testing.T) {
	d := dice{4}
	for range 40 {
		m := model{}
		for range d.upTo(60) {
			m.insert(d.text())
		}
		x := trie.New(m.list()...)
		for range 150 {
			agrees(t, x, m, d.pattern())
		}
	}
}

// Wide sets and patterns with many choices: what goes through all of it once for each choice, or moves all of it for each name, takes very long.
func TestInGoodTime(t *testing.T) {
	const n = 150000
	inGoodTime(t, func() {
		x := trie.New()
		for i := n - 1; i >= 0; i-- { // each ahead of all the others
			x.Insert(fmt.Sprintf("h.%06d.v", i))
		}
		for i := range n {
			s := fmt.Sprintf("h.%06d.v", i)
			if got, err := x.Find(s); err != api.OK || len(got) != 1 || got[0] != leaf(s) {
				t.Fatalf("Find(%q) is %v, %d", s, got, err)
			}
		}
		fails(t, x, "h.*", api.ErrLimit)
		fails(t, x, "h.*.*", api.ErrLimit)
		finds(t, x, "h.*.w")
		finds(t, x, "*.00000[12].{v,w}", leaves("h.000001.v", "h.000002.v")...)
		if l := x.Names(); len(l) != n || l[0] != "h.000000.v" || l[n-1] != fmt.Sprintf("h.%06d.v", n-1) {
			t.Errorf("Names() are %q (%d)", few(l), len(l))
		}
		for i := range n {
			removes(t, x, fmt.Sprintf("h.%06d.v", i), true)
		}
		isSet(t, x)
	})
	inGoodTime(t, func() {
		x := trie.New()
		for i := range 20000 {
			x.Insert(fmt.Sprintf("%s.%05d.z", row("a", 9), i))
		}
		hits, err := x.Find(strings.Repeat("{a,*}.", 9) + "*7777.{z}")
		if err != api.OK || len(hits) != 2 {
			t.Errorf("%v, %d", hits, err)
		}
		finds(t, x, strings.Repeat("{*,*}.", 9)+"*.y")
		finds(t, x, strings.Repeat("{*,?}.", 9)+"x")
		fails(t, x, strings.Repeat("{*,?}.", 9)+"*", api.ErrLimit)
	})
	inGoodTime(t, func() {
		x := trie.New()
		for i := range 1000 {
			x.Insert(strings.Repeat("a", 150) + strconv.Itoa(i))
		}
		finds(t, x, strings.Repeat("*a", 2000)+"*b")
		finds(t, x, "{"+strings.Repeat("*a*b,", many-1)+"*a*a*c}")
	})
}

// P10.3

func TestPlainNamesAreFoundByThemselves(t *testing.T) {
	d := dice{5}
	m := model{}
	for range 400 {
		m.insert(d.text())
	}
	m.insert(row("a", most))
	m.insert(strings.Repeat("b", longSum))
	m.insert("_-:#%@=.true.1.5.-2")
	x := trie.New(m.list()...)
	for _, s := range m.list() {
		hits, err := x.Find(s)
		if err != api.OK || len(hits) == 0 || hits[len(hits)-1] != leaf(s) || len(hits) > 1 && hits[0] != branch(s) || len(hits) > 2 {
			t.Errorf("Find(%q) is %v, %d", s, hits, err)
		}
	}
}

func TestNilTrie(t *testing.T) {
	var x *trie.Trie
	for _, s := range slices.Concat([]string{"a", "a.b.c", row("a", most)}, noNames()) {
		inserts(t, x, s, api.ErrName)
		removes(t, x, s, false)
		has(t, x, s, false)
	}
	if l := x.Names(); len(l) != 0 {
		t.Errorf("Names() are %q", l)
	}
	if n := x.Len(); n != 0 {
		t.Errorf("Len() is %d", n)
	}
	for _, pattern := range []string{"a", "*", "a.b", "?.[a-z]", "{a,*,b.*}", row("*", most), strings.Repeat("{a,b}", 9)} {
		finds(t, x, pattern)
	}
	for pattern, err := range broken() {
		fails(t, x, pattern, err)
	}
}

func TestTrieThatNewDidNotMake(t *testing.T) {
	var x trie.Trie
	isSet(t, &x)
	removes(t, &x, "a", false)
	finds(t, &x, "*")
	inserts(t, &x, "a..b", api.ErrName)
	inserts(t, &x, "b.a", api.OK)
	inserts(t, &x, "a", api.OK)
	isSet(t, &x, "a", "b.a")
	removes(t, &x, "b.a", true)
	isSet(t, &x, "a")
}

// One of the two copies may go on.
func TestCopyByValue(t *testing.T) {
	for _, names := range [][]string{nil, {"a", "b.c"}} {
		x := trie.New(names...)
		y := *x
		inserts(t, &y, "b.d", api.OK)
		removes(t, &y, "a", len(names) > 0)
		isSet(t, &y, modelOf(slices.Concat(slices.DeleteFunc(slices.Clone(names), func(s string) bool { return s == "a" }), []string{"b.d"})...).list()...)
	}
}

func TestTriesAreApart(t *testing.T) {
	names := []string{"a", "a.b", "c.d"}
	x, y := trie.New(names...), trie.New(names...)
	inserts(t, x, "a.c", api.OK)
	removes(t, x, "c.d", true)
	isSet(t, x, "a", "a.b", "a.c")
	isSet(t, y, "a", "a.b", "c.d")
	isSet(t, trie.New())
}

// told is all that a Trie answers without being changed.
func told(x *trie.Trie) string {
	all := []any{x.Len(), x.Names()}
	for _, pattern := range []string{"*", "*.*", "*.*.*", "a", "a.b", "a.{b,*}", "{a,*,*.*}", "{a", "a..b", strings.Repeat("{a,b}", 10)} {
		hits, err := x.Find(pattern)
		all = append(all, hits, int(err))
	}
	for _, s := range []string{"a", "a.b", "b", "", "a..b"} {
		all = append(all, x.Has(s))
	}
	return fmt.Sprint(all...)
}

// The same set tells the same, however it came about, and whatever was asked of it in between.
func TestAnswersHangOnTheSetAlone(t *testing.T) {
	names := []string{"a", "a.b", "a.b.c", "a-b", "b.a", "c.c.c"}
	want := told(trie.New(names...))
	d := dice{6}
	for range 30 {
		x := trie.New()
		for range 40 {
			x.Insert(d.text())
		}
		for _, s := range d.mixed(x.Names()) {
			x.Remove(s)
		}
		for _, s := range d.mixed(names) {
			x.Insert(s)
			told(x)
		}
		x.Insert("a..b")
		x.Remove("c")
		for range 2 {
			if got := told(x); got != want {
				t.Fatalf("there was %s, and now it is %s", want, got)
			}
		}
	}
}

// texts are all texts that a Trie tells.
func texts(x *trie.Trie) []string {
	l := x.Names()
	for _, pattern := range []string{"*", "*.*", "*.*.*", "a", "a.b", "{a,*,a.b,*.b}", "b", "?[e-m]*", "alone", "a.b.c", "l*.n*.[t]oo", "longer.*"} {
		hits, _ := x.Find(pattern)
		for _, h := range hits {
			l = append(l, h.Name)
		}
	}
	return l
}

func TestResultsShareNoMemory(t *testing.T) {
	names := []string{"a", "a.b", "a.b.c", "b", "longer.name.too", "longer", "alone"}
	for i, s := range names {
		names[i] = strings.Clone(s)
	}
	x := trie.New(names...)
	plain := strings.Clone("a.b")
	all := append(slices.Clone(names), plain)
	for range 2 {
		all = append(all, texts(x)...)
		hits, _ := x.Find(plain)
		for _, h := range hits {
			all = append(all, h.Name)
		}
	}
	for i, a := range all {
		for _, b := range all[:i] {
			if meet(a, b) {
				t.Fatalf("%q and %q share memory", a, b)
			}
		}
	}
}

// Results, and the room behind them, may be written over.
func TestRowsOfResultsShareNoMemory(t *testing.T) {
	x := trie.New("a", "a.b", "a.b.c", "b.a", "c")
	want := told(x)
	for _, pattern := range []string{"*", "a", "*.*", "{a,*,*.*,*.*.*}", "x"} {
		first, _ := x.Find(pattern)
		second, _ := x.Find(pattern)
		kept := slices.Clone(second)
		first = first[:cap(first)]
		for i := range first {
			first[i] = leaf("spoilt")
		}
		if !slices.Equal(second, kept) {
			t.Errorf("two results of Find(%q) share memory", pattern)
		}
	}
	first, second := x.Names(), x.Names()
	kept := slices.Clone(second)
	first = first[:cap(first)]
	for i := range first {
		first[i] = "spoilt"
	}
	if !slices.Equal(second, kept) {
		t.Error("two results of Names share memory")
	}
	if got := told(x); got != want {
		t.Errorf("there was %s, and now it is %s", want, got)
	}
}

// What was told stays, whatever becomes of the set.
func TestResultsNeverChange(t *testing.T) {
	x := trie.New("a", "a.b", "a.b.c", "b.a", "c")
	names := x.Names()
	hits, _ := x.Find("{*,*.*}")
	keptNames, keptHits := fmt.Sprint(names), fmt.Sprint(hits)
	for _, s := range []string{"a", "a.b", "a.b.c", "b.a", "c"} {
		x.Remove(s)
		x.Insert(s + ".z")
		x.Insert("0" + s)
		told(x)
	}
	if fmt.Sprint(names) != keptNames || fmt.Sprint(hits) != keptHits {
		t.Errorf("there was %s and %s, and now it is %v and %v", keptNames, keptHits, names, hits)
	}
}

// spoil writes over texts in memory that was handed in.
func spoil(l ...[]byte) {
	for _, b := range l {
		for i := range b {
			b[i] = '!'
		}
	}
}

func TestArgumentsAreNotKept(t *testing.T) {
	want := told(trie.New("a", "a.b", "a.b.c", "long.name", "c"))
	a, b, c, d := []byte("a"), []byte("a.b"), []byte("long.name"), []byte("a.b.c")
	list := append(make([]string, 0, 9), over(a), over(b), over(c), "d.d..")
	list[:9][5] = "room"
	x := trie.New(list...)
	if !slices.Equal(list[:9], []string{"a", "a.b", "long.name", "d.d..", "", "room", "", "", ""}) {
		t.Errorf("the arguments of New have become %q", list[:9])
	}
	inserts(t, x, over(d), api.OK)
	last := []byte("c")
	inserts(t, x, over(last), api.OK)
	if string(a)+string(b)+string(c)+string(d)+string(last) != "aa.blong.namea.b.cc" {
		t.Error("arguments have been modified")
	}
	gone, asked := []byte("a.b"), []byte("a.b.c")
	removes(t, x, over(gone), true)
	inserts(t, x, over(gone), api.OK)
	has(t, x, over(asked), true)
	hits, _ := x.Find(over(asked))
	kept := fmt.Sprint(hits)
	spoil(a, b, c, d, last, gone, asked)
	for i := range list[:9] {
		list[:9][i] = "spoilt"
	}
	if fmt.Sprint(hits) != kept {
		t.Errorf("a result changes with its argument: %v", hits)
	}
	if got := told(x); got != want {
		t.Errorf("there was %s, and now it is %s", want, got)
	}
	isSet(t, x, "a", "a.b", "a.b.c", "c", "long.name")
}

// A pattern is not kept either, not even of choices that are found.
func TestPatternsAreNotKept(t *testing.T) {
	x := trie.New("a", "a.b", "b")
	want := told(x)
	for _, pattern := range []string{"a", "a.b", "*", "{a,b}", "{a,b..c}", "{a"} {
		b := []byte(pattern)
		hits, _ := x.Find(over(b))
		if string(b) != pattern {
			t.Errorf("%q has become %q", pattern, b)
		}
		kept := fmt.Sprint(hits)
		spoil(b)
		if fmt.Sprint(hits) != kept {
			t.Errorf("a result of %q changes with it: %v", pattern, hits)
		}
		if got := told(x); got != want {
			t.Errorf("there was %s, and now it is %s", want, got)
		}
	}
}

func TestListsOfResultsAreNew(t *testing.T) {
	x := trie.New("a", "b")
	first, _ := x.Find("*")
	second, _ := x.Find("*")
	if unsafe.SliceData(first) == unsafe.SliceData(second) {
		t.Error("two results of Find are one list")
	}
	if unsafe.SliceData(x.Names()) == unsafe.SliceData(x.Names()) {
		t.Error("two results of Names are one list")
	}
}

// The example of the chapter, and that its branch goes with the last name behind it.
func TestExample(t *testing.T) {
	x := trie.New("a.b", "a.c", "a.b.d")
	finds(t, x, "a.*", branch("a.b"), leaf("a.b"), leaf("a.c"))
	isSet(t, x, "a.b", "a.b.d", "a.c")
	if !glob.Match("*", "b") {
		t.Error("glob has another mind")
	}
}
