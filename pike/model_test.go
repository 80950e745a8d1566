package pike_test

import (
	"fmt"
	"slices"
	"strings"
	"testing"
	"time"
	"unsafe"

	"graticule/api"
	"graticule/pike"
	"graticule/rex"
)

const most = 1024 // groups

// trial is one run as the chapter has it, one path after the other.
type trial struct {
	rex.Prog
	text string
	done []bool // by instruction and offset
}

// places is what is recorded at the Match to which an instruction leads, or nil.
func (x *trial) places(head, at int, recorded []int) []int {
	if head < 0 || head >= len(x.L) || x.done[head*(len(x.text)+1)+at] {
		return nil
	}
	x.done[head*(len(x.text)+1)+at] = true
	switch i := x.L[head]; {
	case i.Op == rex.Set && at < len(x.text) && hasOf(i.Pairs, x.text[at]):
		return x.places(head+1, at+1, recorded)
	case i.Op == rex.Split:
		if l := x.places(i.X, at, recorded); l != nil {
			return l
		}
		return x.places(i.Y, at, recorded)
	case i.Op == rex.Jump:
		return x.places(i.X, at, recorded)
	case i.Op == rex.Save && 0 <= i.X && i.X < len(recorded):
		recorded = slices.Clone(recorded)
		recorded[i.X] = at
		return x.places(head+1, at, recorded)
	case i.Op == rex.Save, i.Op == rex.Begin && at == 0, i.Op == rex.End && at == len(x.text):
		return x.places(head+1, at, recorded)
	case i.Op == rex.Match:
		return recorded
	}
	return nil
}

// findOf is what Find is to answer; nil stands for false.
func findOf(p rex.Prog, text string, from int) []int {
	if from < 0 || from > len(text) || p.Groups < 0 || p.Groups > most {
		return nil
	}
	for start := from; start <= len(text); start++ {
		x := trial{Prog: p, text: text, done: make([]bool, len(p.L)*(len(text)+1))}
		if l := x.places(0, start, slices.Repeat([]int{-1}, 2*p.Groups+2)); l != nil {
			return l
		}
	}
	return nil
}

// hasOf tells whether a byte is in a set.
func hasOf(pairs string, c byte) bool {
	for i := range len(pairs) / 2 {
		if pairs[2*i] <= c && c <= pairs[2*i+1] {
			return true
		}
	}
	return false
}

// groupOf is what Group is to answer, as far as no number is too great for it.
func groupOf(text string, places []int, k int) string {
	if 0 <= k && 2*k+1 < len(places) {
		if first, second := places[2*k], places[2*k+1]; 0 <= first && first <= second && second <= len(text) {
			return text[first:second]
		}
	}
	return ""
}

func set(pairs string) rex.Inst { return rex.Inst{Op: rex.Set, Pairs: pairs} }

func split(x, y int) rex.Inst { return rex.Inst{Op: rex.Split, X: x, Y: y} }

func jump(x int) rex.Inst { return rex.Inst{Op: rex.Jump, X: x} }

func save(x int) rex.Inst { return rex.Inst{Op: rex.Save, X: x} }

func begin() rex.Inst { return rex.Inst{Op: rex.Begin} }

func end() rex.Inst { return rex.Inst{Op: rex.End} }

func match() rex.Inst { return rex.Inst{Op: rex.Match} }

func other(op int) rex.Inst { return rex.Inst{Op: op} }

func prog(groups int, l ...rex.Inst) rex.Prog { return rex.Prog{Groups: groups, L: l} }

// compiled is the program of an expression.
func compiled(t *testing.T, s string) rex.Prog {
	t.Helper()
	p, err := rex.Compile(s)
	if err != api.OK {
		t.Fatalf("Compile(%q) is the error %d", s, err)
	}
	return p
}

// short is a thing in a text that a message can hold.
func short(x any) string {
	s := fmt.Sprintf("%+v", x)
	if len(s) > 600 {
		return s[:300] + " .. " + s[len(s)-300:]
	}
	return s
}

// answers asks a program for these places; of none it asks that nothing is found.
func answers(t *testing.T, p rex.Prog, text string, from int, want ...int) {
	t.Helper()
	got, ok := pike.Find(p, text, from)
	if ok != (len(want) > 0) || !slices.Equal(got, want) {
		t.Errorf("Find(%s, %q, %d) is %s, %t, not %s", short(p), short(text), from, short(got), ok, short(want))
	}
}

// finds asks an expression for these places.
func finds(t *testing.T, s, text string, from int, want ...int) {
	t.Helper()
	p := compiled(t, s)
	got, ok := pike.Find(p, text, from)
	if ok != (len(want) > 0) || !slices.Equal(got, want) {
		t.Errorf("Find of %q in %q from %d is %v, %t, not %v", s, short(text), from, short(got), ok, want)
	}
	holds(t, p, text)
}

// holds asks Find and Is against the model, from each offset of a text and from beside it.
func holds(t *testing.T, p rex.Prog, text string) {
	t.Helper()
	for from := -1; from <= len(text)+1; from++ {
		answers(t, p, text, from, findOf(p, text, from)...)
	}
	if got, want := pike.Is(p, text), findOf(p, text, 0) != nil; got != want {
		t.Errorf("Is(%s, %q) is %t", short(p), short(text), got)
	}
}

func groupIs(t *testing.T, text string, places []int, k int, want string) {
	t.Helper()
	if got := pike.Group(text, places, k); got != want {
		t.Errorf("Group(%q, %v, %d) is %q, not %q", short(text), places, k, short(got), short(want))
	}
}

// textsOf are all texts of at most n of these letters.
func textsOf(letters string, n int) []string {
	all := []string{""}
	last := all
	for range n {
		var next []string
		for _, s := range last {
			for i := range len(letters) {
				next = append(next, s+letters[i:i+1])
			}
		}
		all = append(all, next...)
		last = next
	}
	return all
}

// programsOf are all programs of n of these instructions, one after the other.
func programsOf(n int, l []rex.Inst, ask func(l []rex.Inst)) {
	chosen := make([]rex.Inst, n)
	var choose func(i int)
	choose = func(i int) {
		if i == n {
			ask(chosen)
			return
		}
		for _, x := range l {
			chosen[i] = x
			choose(i + 1)
		}
	}
	choose(0)
}

// dice are numbers that are the same in each run.
type dice struct{ seed uint64 }

func (d *dice) upTo(n int) int {
	d.seed = d.seed*6364136223846793005 + 1442695040888963407
	return int((d.seed ^ d.seed>>29) >> 1 % uint64(n))
}

func (d *dice) of(l ...string) string { return l[d.upTo(len(l))] }

// text is at most n of these letters.
func (d *dice) text(letters string, n int) string {
	b := make([]byte, d.upTo(n+1))
	for i := range b {
		b[i] = letters[d.upTo(len(letters))]
	}
	return string(b)
}

// program is about n instructions, most of them such as Compile makes, but in no such order.
func (d *dice) program(n int) []rex.Inst {
	place := func() int { return d.upTo(n+3) - 1 + d.upTo(40)/39*1000 }
	var l []rex.Inst
	for range n {
		switch d.upTo(16) {
		case 0, 1, 2, 3, 4, 5:
			l = append(l, set(d.of("aa", "bb", "ab", "ac", "aacc", "\x00\xff", "a", "")))
		case 6, 7, 8, 9:
			l = append(l, split(place(), place()))
		case 10:
			l = append(l, jump(place()))
		case 11:
			l = append(l, []rex.Inst{match(), begin(), end(), other(d.upTo(20) - 5)}[d.upTo(4)])
		default:
			l = append(l, save(d.upTo(10)-1))
		}
	}
	return append(l, save(1), match())
}

// expression is one in which also what may be of no byte is repeated.
func (d *dice) expression(depth int) string {
	var b strings.Builder
	for range d.upTo(5) {
		switch {
		case d.upTo(5) == 0:
			b.WriteString("|")
			continue
		case depth > 0 && d.upTo(2) == 0:
			b.WriteString(d.of("(", "(", "(?:") + d.expression(depth-1) + ")")
		default:
			b.WriteString(d.of("a", "a", "b", "b", "c", ".", "[ab]", "[^a]", "^", "$"))
		}
		b.WriteString(d.of("", "", "", "*", "+", "?", "*?", "+?", "??"))
	}
	return b.String()
}

// tame is an expression in which nothing is repeated that may be of no byte.
func (d *dice) tame(depth int) string {
	var b strings.Builder
	for i := range 1 + d.upTo(3) {
		if i > 0 {
			b.WriteString("|")
		}
		b.WriteString(d.of("", "", "", "", "^"))
		for range 1 + d.upTo(3) {
			b.WriteString(d.of("a", "b", "c", ".", "[ab]", "[^a]"))
			b.WriteString(d.of("", "", "+", "+?"))
			if depth > 0 && d.upTo(2) == 0 {
				b.WriteString(d.of("(", "(", "(?:") + d.tame(depth-1) + ")" + d.of("", "*", "+", "?", "*?", "+?", "??"))
			}
			b.WriteString(d.of("", "", "a*", "b?", ".*?", "c??"))
		}
		b.WriteString(d.of("", "", "", "", "$"))
	}
	return b.String()
}

// inGoodTime breaks off what would go on for ages; what is well made takes a small part of that time.
func inGoodTime(t *testing.T, ask func()) {
	t.Helper()
	done := make(chan struct{})
	go func() {
		defer close(done)
		ask()
	}()
	select {
	case <-done:
	case <-time.After(time.Minute):
		t.Fatal("that takes too long")
	}
}

// meet tells whether two lists have an element of memory in common, also among those that they have room for.
func meet(a, b []int) bool {
	a, b = a[:cap(a)], b[:cap(b)]
	for i := range a {
		for j := range b {
			if &a[i] == &b[j] {
				return true
			}
		}
	}
	return false
}

// over is a text in memory that is written over later.
func over(b []byte) string { return unsafe.String(unsafe.SliceData(b), len(b)) }
