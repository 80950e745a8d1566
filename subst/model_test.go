package subst_test

import (
	"fmt"
	"regexp"
	"slices"
	"strings"
	"testing"
	"time"
	"unsafe"

	"graticule/api"
	"graticule/pike"
	"graticule/rex"
	"graticule/subst"
)

const most = 4096 // bytes of a text, and of a result

var escapes = regexp.MustCompile(`\\[0-9\\]`)

// checkOf is what Check is to answer.
func checkOf(template string) api.Errno {
	if strings.Contains(escapes.ReplaceAllString(template, "-"), `\`) {
		return api.ErrSyntax
	}
	return api.OK
}

// expandOf is what Expand is to answer.
func expandOf(template, text string, places []int) string {
	return escapes.ReplaceAllStringFunc(template, func(s string) string {
		if s == `\\` {
			return `\`
		}
		return groupOf(text, places, int(s[1]-'0'))
	})
}

func groupOf(text string, places []int, k int) string {
	if 2*k+1 < len(places) {
		if first, second := places[2*k], places[2*k+1]; 0 <= first && first <= second && second <= len(text) {
			return text[first:second]
		}
	}
	return ""
}

// allOf is what All is to answer.
func allOf(p rex.Prog, template, text string) (string, api.Errno) {
	if err := checkOf(template); err != api.OK {
		return "", err
	}
	if len(text) > most {
		return "", api.ErrLimit
	}
	var parts []string
	size, at := 0, 0
	for _, l := range matchesOf(p, text) {
		parts = append(parts, text[at:l[0]], expandOf(template, text, l))
		size += l[0] - at + len(parts[len(parts)-1])
		if size > most {
			return "", api.ErrLimit
		}
		at = l[1]
	}
	s := strings.Join(parts, "") + text[at:]
	if len(s) > most {
		return "", api.ErrLimit
	}
	return s, api.OK
}

// matchesOf are the places of what is replaced, from the start to the end of the text. The byte behind a match of no byte is in none of them.
func matchesOf(p rex.Prog, text string) [][]int {
	var all [][]int
	for from := 0; ; {
		l, ok := pike.Find(p, text, from)
		if !ok || l[0] < from || l[1] < l[0] {
			return all
		}
		all = append(all, l)
		from = l[1]
		if l[0] == l[1] {
			from++
		}
	}
}

func set(pairs string) rex.Inst { return rex.Inst{Op: rex.Set, Pairs: pairs} }

func split(x, y int) rex.Inst { return rex.Inst{Op: rex.Split, X: x, Y: y} }

func jump(x int) rex.Inst { return rex.Inst{Op: rex.Jump, X: x} }

func save(x int) rex.Inst { return rex.Inst{Op: rex.Save, X: x} }

func begin() rex.Inst { return rex.Inst{Op: rex.Begin} }

func end() rex.Inst { return rex.Inst{Op: rex.End} }

func match() rex.Inst { return rex.Inst{Op: rex.Match} }

func prog(groups int, l ...rex.Inst) rex.Prog { return rex.Prog{Groups: groups, L: l} }

// compiled is the program of an expression.
func compiled(t *testing.T, s string) rex.Prog {
	t.Helper()
	p, err := rex.Compile(s)
	if err != api.OK {
		t.Fatalf("Compile(%q) is the error %d", s, err)
	}
	return p
}

// short is a thing in a text that a message can hold.
func short(x any) string {
	s := fmt.Sprintf("%+q", x)
	if len(s) > 400 {
		return s[:200] + " .. " + s[len(s)-200:]
	}
	return s
}

func checkIs(t *testing.T, template string, want api.Errno) {
	t.Helper()
	if got := subst.Check(template); got != want {
		t.Errorf("Check(%s) is %d, not %d", short(template), got, want)
	}
}

func expandIs(t *testing.T, template, text string, places []int, want string) {
	t.Helper()
	if got := subst.Expand(template, text, places); got != want {
		t.Errorf("Expand(%s, %s, %v) is %s, not %s", short(template), short(text), places, short(got), short(want))
	}
}

// answers asks a program for this text.
func answers(t *testing.T, p rex.Prog, template, text, want string) {
	t.Helper()
	answersWith(t, p, template, text, want, api.OK)
}

// fails asks a program for this error, and no text beside it.
func fails(t *testing.T, p rex.Prog, template, text string, want api.Errno) {
	t.Helper()
	answersWith(t, p, template, text, "", want)
}

func answersWith(t *testing.T, p rex.Prog, template, text, want string, wantErr api.Errno) {
	t.Helper()
	if got, err := subst.All(p, template, text); got != want || err != wantErr {
		t.Errorf("All of %v, %s, %s is %s, %d, not %s, %d", shortened(p), short(template), short(text), short(got), err, short(want), wantErr)
	}
}

// shortened is a program that a message can hold.
func shortened(p rex.Prog) rex.Prog {
	p.L = p.L[:min(len(p.L), 20)]
	return p
}

// holds asks All against the model.
func holds(t *testing.T, p rex.Prog, template, text string) {
	t.Helper()
	want, err := allOf(p, template, text)
	answersWith(t, p, template, text, want, err)
}

// becomes asks an expression for this text, and holds All against the model for other templates.
func becomes(t *testing.T, s, template, text, want string) {
	t.Helper()
	p := compiled(t, s)
	if got, err := subst.All(p, template, text); got != want || err != api.OK {
		t.Errorf("All of %s, %s, %s is %s, %d, not %s", short(s), short(template), short(text), short(got), err, short(want))
	}
	for _, other := range templates {
		holds(t, p, other, text)
	}
}

// templates are such as show where a match begins and ends, beside others.
var templates = []string{"", "x", `<\0>`, `[\1|\2]`, `\0`, `\\`, `\\0`, `\`, `\1\0\1`, `a\`, `\00`, `\9`, "a", "aa"}

// textsOf are all texts of at most n of these letters.
func textsOf(letters string, n int) []string {
	all := []string{""}
	last := all
	for range n {
		var next []string
		for _, s := range last {
			for i := range len(letters) {
				next = append(next, s+letters[i:i+1])
			}
		}
		all = append(all, next...)
		last = next
	}
	return all
}

// programsOf are all programs of n of these instructions, one after the other.
func programsOf(n int, l []rex.Inst, ask func(l []rex.Inst)) {
	chosen := make([]rex.Inst, n)
	var choose func(i int)
	choose = func(i int) {
		if i == n {
			ask(slices.Clone(chosen))
			return
		}
		for _, x := range l {
			chosen[i] = x
			choose(i + 1)
		}
	}
	choose(0)
}

// dice are numbers that are the same in each run.
type dice struct{ seed uint64 }

func (d *dice) upTo(n int) int {
	d.seed = d.seed*6364136223846793005 + 1442695040888963407
	return int((d.seed ^ d.seed>>29) >> 1 % uint64(n))
}

func (d *dice) of(l ...string) string { return l[d.upTo(len(l))] }

// text is at most n of these.
func (d *dice) text(n int, l ...string) string {
	var b strings.Builder
	for range d.upTo(n + 1) {
		b.WriteString(d.of(l...))
	}
	return b.String()
}

// expression is one in which also what may be of no byte is repeated.
func (d *dice) expression(depth int) string {
	var b strings.Builder
	for range d.upTo(5) {
		switch {
		case d.upTo(5) == 0:
			b.WriteString("|")
			continue
		case depth > 0 && d.upTo(2) == 0:
			b.WriteString(d.of("(", "(", "(?:") + d.expression(depth-1) + ")")
		default:
			b.WriteString(d.of("a", "a", "b", "b", "c", ".", "[ab]", "[^a]", "^", "$"))
		}
		b.WriteString(d.of("", "", "", "*", "+", "?", "*?", "+?", "??"))
	}
	return b.String()
}

// tame is an expression in which nothing is repeated that may be of no byte.
func (d *dice) tame(depth int) string {
	var b strings.Builder
	for i := range 1 + d.upTo(3) {
		if i > 0 {
			b.WriteString("|")
		}
		b.WriteString(d.of("", "", "", "", "^"))
		for range d.upTo(4) {
			b.WriteString(d.of("a", "b", "c", ".", "[ab]", "[^a]"))
			b.WriteString(d.of("", "", "*", "+", "?", "*?", "+?", "??"))
			if depth > 0 && d.upTo(2) == 0 {
				b.WriteString(d.of("(", "(", "(?:") + "a" + d.tame(depth-1) + "c)")
			}
		}
		b.WriteString(d.of("", "", "", "", "$"))
	}
	return b.String()
}

// program is about n instructions, in no such order as Compile has.
func (d *dice) program(n int) []rex.Inst {
	place := func() int { return d.upTo(n+3) - 1 }
	var l []rex.Inst
	for range n {
		switch d.upTo(12) {
		case 0, 1, 2:
			l = append(l, set(d.of("aa", "bb", "ab", "ac", "\x00\xff", "")))
		case 3, 4:
			l = append(l, split(place(), place()))
		case 5:
			l = append(l, jump(place()))
		case 6:
			l = append(l, []rex.Inst{match(), begin(), end(), {Op: d.upTo(20) - 5}}[d.upTo(4)])
		default:
			l = append(l, save(d.upTo(7)-1))
		}
	}
	return append(l, match())
}

// inGoodTime breaks off what would go on for ages; what is well made takes a small part of that time.
func inGoodTime(t *testing.T, ask func()) {
	t.Helper()
	done := make(chan struct{})
	go func() {
		defer close(done)
		ask()
	}()
	select {
	case <-done:
	case <-time.After(time.Minute):
		t.Fatal("that takes too long")
	}
}

// over is a text in memory that is written over later.
func over(b []byte) string { return unsafe.String(unsafe.SliceData(b), len(b)) }

// meet tells whether two texts have a byte of memory in common.
func meet(a, b string) bool {
	first, second := uintptr(unsafe.Pointer(unsafe.StringData(a))), uintptr(unsafe.Pointer(unsafe.StringData(b)))
	return a != "" && b != "" && first < second+uintptr(len(b)) && second < first+uintptr(len(a))
}
