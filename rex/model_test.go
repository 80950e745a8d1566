package rex_test

import (
	"regexp"
	"slices"
	"strconv"
	"strings"
	"testing"
	"time"
	"unsafe"

	"graticule/api"
	"graticule/rex"
)

const (
	longest = 4096 // bytes of an expression
	most    = 1024 // instructions
	deepest = 64   // groups that a group is nested in
)

// The forms read a text in which each byte has become the letter of its number (see wide).
var (
	tokenForm   = regexp.MustCompile(`(?s)\A(?:\(\?:|\(|\)|\||[*+?]\??|\^|\$|\[(?:\^(?:\\.|[^\\])|\\.|[^\\^])(?:\\.|[^\\\]])*\]|\\.|[^\\\[])`)
	elementForm = regexp.MustCompile(`(?s)\\.|.`)
	letterForm  = regexp.MustCompile(`\A\\[a-zA-Z0-9]\z`)
	classForm   = regexp.MustCompile(`\A\\[dwsDWS]\z`)
)

// bytes is which of the 256 bytes belong to a set.
type bytes [256]bool

// tree is an expression in pieces. What it is, sign tells: | of branches, & of pieces, ( of a group, : of one without a number, one of the six repetitions, ^, $, or [ of a set.
type tree struct {
	sign  string
	kids  []*tree
	group int
	set   bytes
}

// wide makes a letter of each byte, and narrow bytes of such letters.
func wide(s string) string {
	l := make([]rune, len(s))
	for i := range len(s) {
		l[i] = rune(s[i])
	}
	return string(l)
}

func narrow(s string) string {
	var b []byte
	for _, c := range s {
		b = append(b, byte(c))
	}
	return string(b)
}

// only is a set of the bytes for which ask is true.
func only(ask func(c int) bool) bytes {
	var set bytes
	for c := range set {
		set[c] = ask(c)
	}
	return set
}

func span(low, high int) bytes { return only(func(c int) bool { return low <= c && c <= high }) }

func not(set bytes) bytes { return only(func(c int) bool { return !set[c] }) }

func either(a, b bytes) bytes { return only(func(c int) bool { return a[c] || b[c] }) }

func among(s string) bytes {
	return only(func(c int) bool { return strings.IndexByte(s, byte(c)) >= 0 })
}

// classOf is the byte class that an element is.
func classOf(element string) bytes {
	switch element {
	case `\d`:
		return among("0123456789")
	case `\w`:
		return among("0123456789_abcdefghijklmnopqrstuvwxyzABCDEFGHIJKLMNOPQRSTUVWXYZ")
	case `\s`:
		return among("\x09\x0a\x0b\x0c\x0d\x20")
	}
	return not(classOf(strings.ToLower(element)))
}

// valueOf is the byte that an element stands for; false of a stroke ahead of a letter or digit.
func valueOf(element string) (int, bool) {
	l := []rune(element)
	return int(l[len(l)-1]), !letterForm.MatchString(element)
}

// bracketOf is the set of a bracket expression.
func bracketOf(token string) (bytes, bool) {
	inner, roof := strings.CutPrefix(token[1:len(token)-1], "^")
	elements := elementForm.FindAllString(inner, -1)
	isClass := func(i int) bool { return i >= 0 && i < len(elements) && classForm.MatchString(elements[i]) }
	// bound tells whether element i may be part of a range.
	bound := func(i int) bool {
		return i < len(elements) && !isClass(i) && !(elements[i] == "-" && (i == len(elements)-1 || isClass(i-1) || isClass(i+1)))
	}
	var set bytes
	for i := 0; i < len(elements); i++ {
		if isClass(i) {
			set = either(set, classOf(elements[i]))
			continue
		}
		low, ok := valueOf(elements[i])
		high := low
		if ok && bound(i) && bound(i+1) && elements[i+1] == "-" && bound(i+2) {
			high, ok = valueOf(elements[i+2])
			i += 2
		}
		if !ok || high < low {
			return set, false
		}
		set = either(set, span(low, high))
	}
	if roof {
		set = not(set)
	}
	return set, true
}

// setOf is the set that a token is.
func setOf(token string) (bytes, bool) {
	switch {
	case token == ".":
		return not(among("\n")), true
	case classForm.MatchString(token):
		return classOf(token), true
	case len(token) > 2 && token[0] == '[':
		return bracketOf(token)
	}
	c, ok := valueOf(token)
	return span(c, c), ok
}

// pairsOf are the runs of a set.
func pairsOf(set bytes) string {
	var b []byte
	for low := range set {
		for high := low; high < 256 && set[high] && (low == 0 || !set[low-1]); high++ {
			if high == 255 || !set[high+1] {
				b = append(b, byte(low), byte(high))
			}
		}
	}
	return string(b)
}

// reader builds trees. Of the groups that are open, the last one comes last; the first is the whole.
type reader struct {
	open   []*tree
	groups int
	behind bool // whether a repetition may follow
}

func choiceOf() []*tree { return []*tree{{sign: "&"}} }

// pieces is the branch that is read.
func (r *reader) pieces() *tree {
	kids := r.open[len(r.open)-1].kids
	return kids[len(kids)-1]
}

func (r *reader) add(x *tree) {
	r.pieces().kids = append(r.pieces().kids, x)
	r.behind = true
}

func (r *reader) group(sign string) api.Errno {
	if len(r.open) > deepest {
		return api.ErrDeep
	}
	x := &tree{sign: sign, kids: choiceOf()}
	if sign == "(" {
		r.groups++
		x.group = r.groups
	}
	r.add(x)
	r.open = append(r.open, x)
	r.behind = false
	return api.OK
}

// take reads one token.
func (r *reader) take(token string) api.Errno {
	switch token {
	case "(", "(?:":
		return r.group(strings.TrimPrefix(token, "(?"))
	case ")":
		if len(r.open) == 1 {
			return api.ErrSyntax
		}
		r.open = r.open[:len(r.open)-1]
		r.behind = true
	case "|":
		x := r.open[len(r.open)-1]
		x.kids = append(x.kids, choiceOf()...)
		r.behind = false
	case "*", "+", "?", "*?", "+?", "??":
		if !r.behind {
			return api.ErrSyntax
		}
		last := &r.pieces().kids[len(r.pieces().kids)-1]
		*last = &tree{sign: token, kids: []*tree{*last}}
		r.behind = false
	case "^", "$":
		r.add(&tree{sign: token})
	default:
		set, ok := setOf(token)
		if !ok {
			return api.ErrSyntax
		}
		r.add(&tree{sign: "[", set: set})
	}
	return api.OK
}

// laid is the program of a tree, whose first instruction has the index at.
func (x *tree) laid(at int) []rex.Inst {
	var l []rex.Inst
	split := func(x, y int) rex.Inst {
		return rex.Inst{Op: rex.Split, X: x, Y: y}
	}
	switch x.sign {
	case "(":
		l = append(l, rex.Inst{Op: rex.Save, X: 2 * x.group})
		l = append(l, laidBranches(x.kids, at+1)...)
		return append(l, rex.Inst{Op: rex.Save, X: 2*x.group + 1})
	case ":":
		return laidBranches(x.kids, at)
	case "&":
		for _, kid := range x.kids {
			l = append(l, kid.laid(at+len(l))...)
		}
		return l
	case "^":
		return []rex.Inst{{Op: rex.Begin}}
	case "$":
		return []rex.Inst{{Op: rex.End}}
	case "[":
		return []rex.Inst{{Op: rex.Set, Pairs: pairsOf(x.set)}}
	case "*", "*?":
		l = slices.Concat([]rex.Inst{{}}, x.kids[0].laid(at+1))
		l = append(l, rex.Inst{Op: rex.Jump, X: at})
		l[0] = split(at+1, at+len(l))
	case "+", "+?":
		l = x.kids[0].laid(at)
		l = append(l, split(at, at+len(l)+1))
	case "?", "??":
		l = slices.Concat([]rex.Inst{{}}, x.kids[0].laid(at+1))
		l[0] = split(at+1, at+len(l))
	}
	if len(x.sign) == 2 {
		for i := range l {
			if i == 0 && x.sign != "+?" || i == len(l)-1 && x.sign == "+?" {
				l[i].X, l[i].Y = l[i].Y, l[i].X
			}
		}
	}
	return l
}

// laidBranches is a choice, from the last branch on: a|b|c is a|(b|c).
func laidBranches(branches []*tree, at int) []rex.Inst {
	if len(branches) == 1 {
		return branches[0].laid(at)
	}
	a := branches[0].laid(at + 1)
	b := laidBranches(branches[1:], at+1+len(a)+1)
	l := []rex.Inst{{Op: rex.Split, X: at + 1, Y: at + 1 + len(a) + 1}}
	l = append(l, a...)
	l = append(l, rex.Inst{Op: rex.Jump, X: at + 1 + len(a) + 1 + len(b)})
	return append(l, b...)
}

// compileOf is what Compile is to answer.
func compileOf(s string) (rex.Prog, api.Errno) {
	if len(s) > longest {
		return rex.Prog{}, api.ErrLimit
	}
	r := reader{open: []*tree{{sign: ":", kids: choiceOf()}}}
	for rest := wide(s); rest != ""; {
		token := tokenForm.FindString(rest)
		if token == "" {
			return rex.Prog{}, api.ErrSyntax // a bracket without its end, or a stroke at the end
		}
		if err := r.take(token); err != api.OK {
			return rex.Prog{}, err
		}
		rest = rest[len(token):]
	}
	if len(r.open) > 1 {
		return rex.Prog{}, api.ErrSyntax
	}
	l := append([]rex.Inst{{Op: rex.Save}}, r.open[0].laid(1)...)
	l = append(l, rex.Inst{Op: rex.Save, X: 1}, rex.Inst{Op: rex.Match})
	if len(l) > most {
		return rex.Prog{}, api.ErrLimit
	}
	return rex.Prog{Groups: r.groups, L: l}, api.OK
}

// hasOf is what Has is to answer.
func hasOf(pairs string, c byte) bool {
	for i := range len(pairs) / 2 {
		if pairs[2*i] <= c && c <= pairs[2*i+1] {
			return true
		}
	}
	return false
}

// program is instructions out of their words: "Save 0; Set aa; Split 1 3; Begin". Of a set, what is in quotes is read as such.
func program(text string) []rex.Inst {
	ops := map[string]int{"Set": 1, "Split": 2, "Jump": 3, "Save": 4, "Begin": 5, "End": 6, "Match": 7}
	var l []rex.Inst
	for _, words := range strings.Split(text, "; ") {
		op, rest, _ := strings.Cut(words, " ")
		x := rex.Inst{Op: ops[op]}
		if op == "Set" {
			x.Pairs = rest
			if quoted, err := strconv.Unquote(rest); err == nil {
				x.Pairs = quoted
			}
		} else {
			first, second, _ := strings.Cut(rest, " ")
			x.X, _ = strconv.Atoi(first)
			x.Y, _ = strconv.Atoi(second)
		}
		l = append(l, x)
	}
	return l
}

// show is a program in words.
func show(l []rex.Inst) string {
	names := []string{"?", "Set", "Split", "Jump", "Save", "Begin", "End", "Match"}
	var b strings.Builder
	for i, x := range l {
		if i > 0 {
			b.WriteString("; ")
		}
		if x.Op < 0 || x.Op >= len(names) {
			x.Op = 0
		}
		b.WriteString(names[x.Op] + " " + strconv.Itoa(x.X) + " " + strconv.Itoa(x.Y))
		if x.Pairs != "" {
			b.WriteString(" " + strconv.Quote(x.Pairs))
		}
	}
	return short(b.String())
}

// short is a text that a message can hold.
func short(s string) string {
	if len(s) > 600 {
		return s[:300] + " .. " + s[len(s)-300:]
	}
	return s
}

// is asks for just this program.
func is(t *testing.T, s string, groups int, want []rex.Inst) {
	t.Helper()
	p, err := rex.Compile(s)
	if err != api.OK || p.Groups != groups || !slices.Equal(p.L, want) {
		t.Errorf("Compile(%q) is %d groups, %s (%d), %d, not %d groups, %s (%d)", short(s), p.Groups, show(p.L), len(p.L), err, groups, show(want), len(want))
	}
}

// fails asks for an error, and for nothing beside it.
func fails(t *testing.T, s string, want api.Errno) {
	t.Helper()
	p, err := rex.Compile(s)
	if err != want || p.Groups != 0 || len(p.L) != 0 {
		t.Errorf("Compile(%q) is %d groups, %s, %d, not the error %d", short(s), p.Groups, show(p.L), err, want)
	}
}

// holds asks Compile against the model.
func holds(t *testing.T, s string) {
	t.Helper()
	want, err := compileOf(s)
	if err != api.OK {
		fails(t, s, err)
		return
	}
	is(t, s, want.Groups, want.L)
}

// inner asks for a program that stands between Save 0 and Save 1.
func inner(t *testing.T, s string, groups int, text string) {
	t.Helper()
	whole := "Save 0; " + text + "; Save 1; Match"
	if text == "" {
		whole = "Save 0; Save 1; Match"
	}
	is(t, s, groups, program(whole))
	holds(t, s)
}

// setIs asks for an expression of one set.
func setIs(t *testing.T, s, pairs string) {
	t.Helper()
	is(t, s, 0, []rex.Inst{{Op: rex.Save}, {Op: rex.Set, Pairs: pairs}, {Op: rex.Save, X: 1}, {Op: rex.Match}})
	holds(t, s)
}

// setFails asks for the error of syntax, from the words and from the model.
func setFails(t *testing.T, s string) {
	t.Helper()
	fails(t, s, api.ErrSyntax)
	holds(t, s)
}

func hasIs(t *testing.T, pairs string, c byte, want bool) {
	t.Helper()
	if got := rex.Has(pairs, c); got != want {
		t.Errorf("Has(%q, %d) is %t", short(pairs), c, got)
	}
}

// hasJust asks for all 256 bytes.
func hasJust(t *testing.T, pairs, want string) {
	t.Helper()
	for c := range 256 {
		hasIs(t, pairs, byte(c), strings.IndexByte(want, byte(c)) >= 0)
	}
}

// textsOf are all texts of at most n of these letters.
func textsOf(letters string, n int) []string {
	all := []string{""}
	last := all
	for range n {
		var next []string
		for _, s := range last {
			for i := range len(letters) {
				next = append(next, s+letters[i:i+1])
			}
		}
		all = append(all, next...)
		last = next
	}
	return all
}

// dice are numbers that are the same in each run.
type dice struct{ seed uint64 }

func (d *dice) upTo(n int) int {
	d.seed = d.seed*6364136223846793005 + 1442695040888963407
	return int((d.seed ^ d.seed>>29) >> 1 % uint64(n))
}

func (d *dice) of(l ...string) string { return l[d.upTo(len(l))] }

// text is n of these letters.
func (d *dice) text(letters string, n int) string {
	b := make([]byte, n)
	for i := range b {
		b[i] = letters[d.upTo(len(letters))]
	}
	return string(b)
}

// expression is one with branches, groups and repetitions, and now and then with what is wrong.
func (d *dice) expression(depth int) string {
	var b strings.Builder
	for range d.upTo(5) {
		switch {
		case d.upTo(6) == 0:
			b.WriteString("|")
			continue
		case depth > 0 && d.upTo(3) == 0:
			b.WriteString(d.of("(", "(", "(?:") + d.expression(depth-1) + ")")
		case d.upTo(4) == 0:
			b.WriteString(d.bracket())
		default:
			b.WriteString(d.of("a", "b", "c", ".", "^", "$", `\d`, `\W`, `\.`, "]", "{", "}", "\xff", "-", ","))
		}
		if d.upTo(2) == 0 {
			b.WriteString(d.of("*", "+", "?", "*?", "+?", "??"))
		}
	}
	if d.upTo(60) == 0 {
		b.WriteString(d.of("*", "?", "(", ")", "[", `\`, `\a`, "(?", "(?=", "[b-a]", "[]"))
	}
	return b.String()
}

// bracket is a bracket expression, or one that is nearly so.
func (d *dice) bracket() string {
	s := d.of("[", "[", "[^", "[]", "[^]", "[-", "[^-")
	for range 1 + d.upTo(5) {
		s += d.of("a", "b", "c", "-", "-", "+", "^", "[", `\-`, `\]`, `\\`, `\d`, `\w`, `\S`, "a-c", "+-/", "0-9", "\x00-\x1f", "x-\xff", "\xff")
	}
	return s + d.of("]", "]", "]", "]", "-]", "-]", "]]")
}

// bytesOf is a text of these bytes.
func bytesOf(l ...int) string {
	var b []byte
	for _, c := range l {
		b = append(b, byte(c))
	}
	return string(b)
}

// inGoodTime breaks off what would go on for ages; what is well made takes a thousandth of that time.
func inGoodTime(t *testing.T, ask func()) {
	t.Helper()
	done := make(chan struct{})
	go func() {
		defer close(done)
		ask()
	}()
	select {
	case <-done:
	case <-time.After(time.Minute):
		t.Fatal("that takes too long")
	}
}

// meet tells whether two texts have a byte of memory in common.
func meet(a, b string) bool {
	if a == "" || b == "" {
		return false
	}
	first, second := uintptr(unsafe.Pointer(unsafe.StringData(a))), uintptr(unsafe.Pointer(unsafe.StringData(b)))
	return first < second+uintptr(len(b)) && second < first+uintptr(len(a))
}

// over is a text in memory that is written over later.
func over(b []byte) string { return unsafe.String(unsafe.SliceData(b), len(b)) }
