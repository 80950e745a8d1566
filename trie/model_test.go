package trie_test

import (
	"maps"
	"slices"
	"strings"
	"testing"
	"time"
	"unsafe"

	"graticule/api"
	"graticule/glob"
	"graticule/name"
	"graticule/trie"
)

const (
	longest = 4096 // bytes of a pattern
	many    = 512  // hits, and what comes out of a pattern
	most    = 20   // parts
	longSum = 200  // bytes of a name
)

// model is a set of names, and nothing else: what it is asked, it is asked anew.
type model map[string]bool

func modelOf(names ...string) model {
	m := model{}
	for _, s := range names {
		m.insert(s)
	}
	return m
}

func (m model) insert(s string) api.Errno {
	if !name.Is(s) {
		return api.ErrName
	}
	m[s] = true
	return api.OK
}

func (m model) remove(s string) bool {
	there := m[s]
	delete(m, s)
	return there
}

// asBytes is a text whose order of bytes is the order of names: none of them has a byte below 1 in place of its dots.
func asBytes(s string) string { return strings.ReplaceAll(s, ".", "\x00") }

func inOrder(a, b string) int { return strings.Compare(asBytes(a), asBytes(b)) }

func (m model) list() []string { return slices.SortedFunc(maps.Keys(m), inOrder) }

// things are all names and branches.
func (m model) things() map[api.Hit]bool {
	all := map[api.Hit]bool{}
	for s := range m {
		all[api.Hit{Name: s, Leaf: true}] = true
		for i := range len(s) {
			if s[i] == '.' {
				all[api.Hit{Name: s[:i]}] = true
			}
		}
	}
	return all
}

// fits tells whether s has as many parts, and each of them is matched.
func fits(patterns []string, s string) bool {
	parts := strings.Split(s, ".")
	if len(parts) != len(patterns) {
		return false
	}
	for i, part := range parts {
		if !glob.Match(patterns[i], part) {
			return false
		}
	}
	return true
}

// find holds each thing against each of the patterns.
func (m model) find(pattern string) ([]api.Hit, api.Errno) {
	texts, err := glob.Expand(pattern)
	if err != api.OK {
		return nil, err
	}
	var all [][]string
	for _, s := range texts {
		parts, err := glob.Parts(s)
		if err != api.OK {
			return nil, err
		}
		all = append(all, parts)
	}
	hits := []api.Hit{}
	for h := range m.things() {
		if slices.ContainsFunc(all, func(parts []string) bool { return fits(parts, h.Name) }) {
			hits = append(hits, h)
		}
	}
	if len(hits) > many {
		return nil, api.ErrLimit
	}
	slices.SortFunc(hits, func(a, b api.Hit) int {
		if a.Name == b.Name && a.Leaf != b.Leaf {
			if b.Leaf {
				return -1
			}
			return 1
		}
		return inOrder(a.Name, b.Name)
	})
	return hits, api.OK
}

// branch and leaf are hits.
func branch(s string) api.Hit { return api.Hit{Name: s} }

func leaf(s string) api.Hit { return api.Hit{Name: s, Leaf: true} }

func leaves(names ...string) []api.Hit {
	var l []api.Hit
	for _, s := range names {
		l = append(l, leaf(s))
	}
	return l
}

// short is a text that a message can hold.
func short(s string) string {
	if len(s) > 300 {
		return s[:150] + " .. " + s[len(s)-150:]
	}
	return s
}

// few are so few of a list that a message can hold them.
func few(l []string) []string {
	if len(l) > 12 {
		l = slices.Concat(l[:6], l[len(l)-6:])
	}
	all := []string{}
	for _, s := range l {
		all = append(all, short(s))
	}
	return all
}

// fewHits are hits in words.
func fewHits(l []api.Hit) []string {
	all := []string{}
	for _, h := range l {
		if h.Leaf {
			all = append(all, h.Name+" leaf")
		} else {
			all = append(all, h.Name+" branch")
		}
	}
	return few(all)
}

// finds asks for just these hits.
func finds(t *testing.T, x *trie.Trie, pattern string, want ...api.Hit) {
	t.Helper()
	got, err := x.Find(pattern)
	if err != api.OK || !slices.Equal(got, want) {
		t.Errorf("Find(%q) is %q (%d), %d, not %q (%d)", short(pattern), fewHits(got), len(got), err, fewHits(want), len(want))
	}
}

// fails asks for an error, and for nothing beside it.
func fails(t *testing.T, x *trie.Trie, pattern string, want api.Errno) {
	t.Helper()
	got, err := x.Find(pattern)
	if err != want || len(got) != 0 {
		t.Errorf("Find(%q) is %q (%d), %d, not the error %d", short(pattern), fewHits(got), len(got), err, want)
	}
}

// agrees asks for what the model finds.
func agrees(t *testing.T, x *trie.Trie, m model, pattern string) {
	t.Helper()
	want, err := m.find(pattern)
	if err != api.OK {
		fails(t, x, pattern, err)
		return
	}
	finds(t, x, pattern, want...)
}

// levels are patterns that find all names and branches, a number of parts at a time, and one that has too many parts for it.
func (m model) levels() []string {
	deepest := 0
	for s := range m {
		deepest = max(deepest, strings.Count(s, ".")+1)
	}
	var l []string
	for n := 1; n <= min(deepest+1, most); n++ {
		l = append(l, row("*", n))
	}
	return l
}

// holds asks everything but patterns: all names and branches of the model are there, and no others.
func holds(t *testing.T, x *trie.Trie, m model) {
	t.Helper()
	if n := x.Len(); n != len(m) {
		t.Errorf("Len() is %d, not %d", n, len(m))
	}
	if got, want := x.Names(), m.list(); !slices.Equal(got, want) {
		t.Errorf("Names() are %q (%d), not %q (%d)", few(got), len(got), few(want), len(want))
	}
	for h := range m.things() {
		if x.Has(h.Name) != m[h.Name] {
			t.Errorf("Has(%q) is not %t", short(h.Name), m[h.Name])
		}
	}
	for _, pattern := range m.levels() {
		agrees(t, x, m, pattern)
	}
}

// isSet asks for just these names, in that order.
func isSet(t *testing.T, x *trie.Trie, names ...string) {
	t.Helper()
	if got := x.Names(); !slices.Equal(got, names) {
		t.Errorf("Names() are %q (%d), not %q (%d)", few(got), len(got), few(names), len(names))
	}
	if n := x.Len(); n != len(names) {
		t.Errorf("Len() is %d, not %d", n, len(names))
	}
	for _, s := range names {
		if !x.Has(s) {
			t.Errorf("Has(%q) is false", s)
		}
	}
	holds(t, x, modelOf(names...))
}

func inserts(t *testing.T, x *trie.Trie, s string, want api.Errno) {
	t.Helper()
	if err := x.Insert(s); err != want {
		t.Errorf("Insert(%q) is %d, not %d", short(s), err, want)
	}
}

func removes(t *testing.T, x *trie.Trie, s string, want bool) {
	t.Helper()
	if got := x.Remove(s); got != want {
		t.Errorf("Remove(%q) is %t", short(s), got)
	}
}

func has(t *testing.T, x *trie.Trie, s string, want bool) {
	t.Helper()
	if got := x.Has(s); got != want {
		t.Errorf("Has(%q) is %t", short(s), got)
	}
}

// row is n times a part with dots between.
func row(part string, n int) string { return strings.Repeat(part+".", n-1) + part }

// dice are numbers that are the same in each run.
type dice struct{ seed uint64 }

func (d *dice) upTo(n int) int {
	d.seed = d.seed*6364136223846793005 + 1442695040888963407
	return int((d.seed ^ d.seed>>29) >> 1 % uint64(n))
}

func (d *dice) of(l ...string) string { return l[d.upTo(len(l))] }

// mixed is a list in another order.
func (d *dice) mixed(l []string) []string {
	l = slices.Clone(l)
	for i := range l {
		j := i + d.upTo(len(l)-i)
		l[i], l[j] = l[j], l[i]
	}
	return l
}

// text is a name, or now and then what is nearly one.
func (d *dice) text() string {
	parts := make([]string, 1+d.upTo(4))
	for i := range parts {
		parts[i] = d.of("a", "b", "a-", "a0", "ab", "-", "A")
	}
	if d.upTo(12) == 0 {
		parts[d.upTo(len(parts))] = d.of("", " ", "*", "a/b")
	}
	return strings.Join(parts, ".")
}

// pattern is one with choices in it, or now and then what is nearly one.
func (d *dice) pattern() string {
	parts := make([]string, 1+d.upTo(4))
	for i := range parts {
		parts[i] = d.of("*", "*", "a", "b", "a*", "?", "a?", "[ab]", "[a-b-]*", "{a,b}", "{a*,*}", "{b,a,b}", "{a,a.b}", "{*.*,*}", "a{,-,0}", "{a.,}*", "A")
	}
	if d.upTo(20) == 0 {
		parts[d.upTo(len(parts))] = d.of("", "[b-a]", "{a", "[", "a b", "{a,}", "}")
	}
	return strings.Join(parts, ".")
}

// inGoodTime breaks off what would go on for ages; what is well made takes a hundredth of that time.
func inGoodTime(t *testing.T, ask func()) {
	t.Helper()
	done := make(chan struct{})
	go func() {
		defer close(done)
		ask()
	}()
	select {
	case <-done:
	case <-time.After(time.Minute):
		t.Fatal("that takes too long")
	}
}

// meet tells whether two texts have a byte of memory in common.
func meet(a, b string) bool {
	if a == "" || b == "" {
		return false
	}
	first, second := uintptr(unsafe.Pointer(unsafe.StringData(a))), uintptr(unsafe.Pointer(unsafe.StringData(b)))
	return first < second+uintptr(len(b)) && second < first+uintptr(len(a))
}

// over is a text in memory that is written over later.
func over(b []byte) string { return unsafe.String(unsafe.SliceData(b), len(b)) }
