package tree_test

import (
	"fmt"
	"reflect"
	"regexp"
	"slices"
	"sort"
	"strings"
	"testing"
	"time"
	"unsafe"

	"graticule/api"
	"graticule/dec"
	"graticule/lex"
	"graticule/tree"
)

const (
	deepest = 64      // calls within one another
	most    = 4096    // bytes of a text
	high    = 1 << 62 // the greatest number of a value
)

var (
	identForm = regexp.MustCompile(`\A[a-zA-Z][a-zA-Z0-9_]*\z`)
	pathForm  = regexp.MustCompile(`\A[a-zA-Z0-9_:#%@=.*?\[\]{},-]+\z`)
	groupForm = regexp.MustCompile(`\{[^{}]*\}`)
)

func call(name string, kids ...api.Node) api.Node {
	return api.Node{Kind: api.KindCall, Text: name, Kids: kids}
}

func path(s string) api.Node { return api.Node{Kind: api.KindPath, Text: s} }

func number(n int) api.Node { return api.Node{Kind: api.KindNumber, N: n} }

func quoted(s string) api.Node { return api.Node{Kind: api.KindString, Text: s} }

func truth(n int) api.Node { return api.Node{Kind: api.KindBool, N: n} }

// chain is so many calls within one another, and what stands in the innermost.
func chain(n int, kids ...api.Node) api.Node {
	x := call("f", kids...)
	for range n - 1 {
		x = call("f", x)
	}
	return x
}

// within is a text in so many calls.
func within(n int, s string) string { return strings.Repeat("f(", n) + s + strings.Repeat(")", n) }

// shapeOf is what the tokens are to the grammar: f a function ahead of its Open, e a whole expression, x what is none.
func shapeOf(l []lex.Token) string {
	var b strings.Builder
	for i, t := range l {
		_, ok := leafOf(t)
		switch {
		case t.Kind == lex.Open:
			b.WriteString("(")
		case t.Kind == lex.Close:
			b.WriteString(")")
		case t.Kind == lex.Comma:
			b.WriteString(",")
		case t.Kind == lex.Word && i+1 < len(l) && l[i+1].Kind == lex.Open && identForm.MatchString(t.Text):
			b.WriteString("f")
		case ok:
			b.WriteString("e")
		default:
			b.WriteString("x")
		}
	}
	return b.String()
}

// isWhole tells whether a shape is one expression: calls become expressions, from the innermost on.
func isWhole(shape string) bool {
	for n := 0; n != len(shape); {
		n = len(shape)
		shape = strings.ReplaceAll(shape, "(e,e", "(e")
		shape = strings.ReplaceAll(shape, "f(e)", "e")
		shape = strings.ReplaceAll(shape, "f()", "e")
	}
	return shape == "e"
}

func openIn(shape string) int { return strings.Count(shape, "(") - strings.Count(shape, ")") }

// goesOn tells whether something can stand behind a shape so that all is one expression: if anything can, then no more than a word and what closes the calls. What is a function only if an Open is behind it is an expression at the end.
func goesOn(shape string) bool {
	n := openIn(shape)
	if n < 0 {
		return false
	}
	if name, ok := strings.CutSuffix(shape, "f"); ok {
		shape = name + "e"
	}
	end := strings.Repeat(")", n)
	return isWhole(shape+end) || isWhole(shape+"e"+end)
}

// wrongAt is ahead of how many tokens the first one stands that can't be there; all of them if there are too few.
func wrongAt(shape string) int {
	return sort.Search(len(shape), func(i int) bool { return !goesOn(shape[:i+1]) })
}

// deepAt is ahead of how many tokens the first expression stands that is in too many calls; more than all if there is none.
func deepAt(shape string) int {
	for i := 1; i <= len(shape); i++ {
		if shape[i-1] == '(' && openIn(shape[:i]) == deepest && !strings.HasPrefix(shape[i:], ")") {
			return i
		}
	}
	return len(shape) + 1
}

// parseOf is what Parse is to answer.
func parseOf(s string) (api.Node, api.Errno) {
	l, err := lex.Lex(s)
	if err != api.OK {
		return api.Node{}, err
	}
	shape := shapeOf(l)
	deep := deepAt(shape)
	switch {
	case deep <= len(l) && deep <= wrongAt(shape):
		return api.Node{}, api.ErrDeep
	case !isWhole(shape):
		return api.Node{}, api.ErrSyntax
	}
	return nodeOf(l, shape), api.OK
}

// nodeOf is the node of tokens that are one expression of this shape.
func nodeOf(l []lex.Token, shape string) api.Node {
	if len(l) == 1 {
		n, _ := leafOf(l[0])
		return n
	}
	n := call(l[0].Text)
	begin := 2
	for i := 2; i < len(l); i++ {
		last := i == len(l)-1
		if begin < i && (last || shape[i] == ',' && openIn(shape[2:i]) == 0) {
			n.Kids = append(n.Kids, nodeOf(l[begin:i], shape[begin:i]))
			begin = i + 1
		}
	}
	return n
}

// leafOf is the node of a token by itself.
func leafOf(t lex.Token) (api.Node, bool) {
	v, _ := dec.Parse(t.Text)
	switch {
	case t.Kind == lex.String:
		return quoted(t.Text), true
	case v.Ok:
		return number(v.N), true
	case t.Text == "true":
		return truth(1), true
	case t.Text == "false":
		return truth(0), true
	}
	return path(t.Text), isPathOf(t.Text)
}

// isPathOf tells whether a text is one word without a plus.
func isPathOf(s string) bool {
	if len(s) > most || !pathForm.MatchString(s) {
		return false
	}
	for groupForm.MatchString(s) {
		s = groupForm.ReplaceAllString(s, "")
	}
	return !strings.ContainsAny(s, "{},")
}

// depthOf goes from the outside to the inside, all calls of one level at once.
func depthOf(n api.Node) int {
	depth := 0
	for level := []api.Node{n}; len(level) > 0; depth++ {
		var next []api.Node
		for _, x := range level {
			if x.Kind == api.KindCall {
				next = append(next, x.Kids...)
			}
		}
		level = next
	}
	return depth
}

// holdsOf tells whether a node is valid, but for its depth.
func holdsOf(n api.Node) bool {
	bare := n
	bare.Kind = 0
	switch n.Kind {
	case api.KindCall:
		for _, kid := range n.Kids {
			if !holdsOf(kid) {
				return false
			}
		}
		bare.Text, bare.Kids = "", nil
		return isNothing(bare) && identForm.MatchString(n.Text)
	case api.KindPath:
		bare.Text = ""
		v, _ := dec.Parse(n.Text)
		return isNothing(bare) && isPathOf(n.Text) && !v.Ok && n.Text != "true" && n.Text != "false"
	case api.KindNumber:
		bare.N = 0
		return isNothing(bare) && n.N >= -high && n.N <= high
	case api.KindString:
		bare.Text = ""
		return isNothing(bare) && strings.Count(n.Text, `"`)*strings.Count(n.Text, "'") == 0
	case api.KindBool:
		bare.N = 0
		return isNothing(bare) && (n.N == 0 || n.N == 1)
	}
	return false
}

func isNothing(n api.Node) bool { return reflect.DeepEqual(tidy(n), api.Node{}) }

func isOf(n api.Node) bool { return depthOf(n) <= deepest && holdsOf(n) }

func printOf(n api.Node) string {
	if !isOf(n) {
		return ""
	}
	return textOf(n, func() string { return "" })
}

// textOf is a valid node as a text, with something between its tokens.
func textOf(n api.Node, between func() string) string {
	switch n.Kind {
	case api.KindCall:
		var l []string
		for _, kid := range n.Kids {
			l = append(l, between()+textOf(kid, between)+between())
		}
		return n.Text + between() + "(" + between() + strings.Join(l, ",") + ")"
	case api.KindNumber:
		return dec.Print(api.Val{Ok: true, N: n.N})
	case api.KindString:
		if strings.Contains(n.Text, `"`) {
			return "'" + n.Text + "'"
		}
		return `"` + n.Text + `"`
	case api.KindBool:
		return fmt.Sprint(n.N == 1)
	}
	return n.Text
}

// tidy is a copy of a node that has no empty lists but nil.
func tidy(n api.Node) api.Node {
	n.Text = strings.Clone(n.Text)
	kids := n.Kids
	n.Kids = nil
	for _, kid := range kids {
		n.Kids = append(n.Kids, tidy(kid))
	}
	return n
}

func sameOf(a, b api.Node) bool { return reflect.DeepEqual(tidy(a), tidy(b)) }

// short is a thing in a text that a message can hold.
func short(x any) string {
	s := fmt.Sprintf("%+q", x)
	if len(s) > 400 {
		return s[:200] + " .. " + s[len(s)-200:]
	}
	return s
}

func parseIs(t *testing.T, s string, want api.Node) {
	t.Helper()
	parseIsWith(t, s, want, api.OK)
}

// parseFails asks a text for this error, and no node beside it.
func parseFails(t *testing.T, s string, want api.Errno) {
	t.Helper()
	parseIsWith(t, s, api.Node{}, want)
}

func parseIsWith(t *testing.T, s string, want api.Node, wantErr api.Errno) {
	t.Helper()
	if got, err := tree.Parse(s); !sameOf(got, want) || err != wantErr {
		t.Errorf("Parse(%s) is %s, %d, not %s, %d", short(s), short(got), err, short(want), wantErr)
	}
}

// reads asks Parse against the model.
func reads(t *testing.T, s string) {
	t.Helper()
	want, err := parseOf(s)
	parseIsWith(t, s, want, err)
}

// printIs asks for a text; an empty one is that of a node which is not valid.
func printIs(t *testing.T, n api.Node, want string) {
	t.Helper()
	if got := tree.Print(n); got != want {
		t.Errorf("Print(%s) is %s, not %s", short(n), short(got), short(want))
	}
	if got := tree.Is(n); got != (want != "") {
		t.Errorf("Is(%s) is %t", short(n), got)
	}
}

func depthIs(t *testing.T, n api.Node, want int) {
	t.Helper()
	if got := tree.Depth(n); got != want {
		t.Errorf("Depth(%s) is %d, not %d", short(n), got, want)
	}
}

// sameIs asks in both orders.
func sameIs(t *testing.T, a, b api.Node, want bool) {
	t.Helper()
	if tree.Same(a, b) != want || tree.Same(b, a) != want {
		t.Errorf("Same(%s, %s) is %t, and %t the other way round", short(a), short(b), tree.Same(a, b), tree.Same(b, a))
	}
}

// holds asks what there is to ask of one node against the model.
func holds(t *testing.T, n api.Node) {
	t.Helper()
	printIs(t, n, printOf(n))
	depthIs(t, n, depthOf(n))
	sameIs(t, n, tidy(n), true)
}

// comesBack asks for a valid node that is read as it was printed.
func comesBack(t *testing.T, n api.Node) {
	t.Helper()
	s := tree.Print(n)
	if s == "" {
		t.Errorf("%s is to be valid", short(n))
		return
	}
	if len(s) > most {
		parseFails(t, s, api.ErrLimit)
		return
	}
	parseIs(t, s, n)
}

// listsOf are all texts of at most n of these pieces.
func listsOf(pieces []string, n int) []string {
	all := []string{""}
	last := all
	for range n {
		var next []string
		for _, s := range last {
			for _, x := range pieces {
				next = append(next, s+x)
			}
		}
		all = append(all, next...)
		last = next
	}
	return all
}

// dice are numbers that are the same in each run.
type dice struct{ seed uint64 }

func (d *dice) upTo(n int) int {
	d.seed = d.seed*6364136223846793005 + 1442695040888963407
	return int((d.seed ^ d.seed>>29) >> 1 % uint64(n))
}

func (d *dice) of(l ...string) string { return l[d.upTo(len(l))] }

// text is at most n of these.
func (d *dice) text(n int, l ...string) string {
	var b strings.Builder
	for range d.upTo(n + 1) {
		b.WriteString(d.of(l...))
	}
	return b.String()
}

// bytes is at most n bytes of all kinds but for those in less.
func (d *dice) bytes(n int, less string) string {
	var b []byte
	for range d.upTo(n + 1) {
		if c := byte(d.upTo(256)); strings.IndexByte(less, c) < 0 {
			b = append(b, c)
		}
	}
	return string(b)
}

// node is a valid one of at most this depth.
func (d *dice) node(depth int) api.Node {
	switch k := d.upTo(8); {
	case k == 0:
		return truth(d.upTo(2))
	case k == 1:
		return quoted(d.bytes(6, d.of(`"`, "'")))
	case k == 2:
		return number((d.upTo(2*high-1) - high) >> d.upTo(62))
	case k == 3 || depth < 2:
		return path(d.of("a", "a.b", "*", "{b,c}.d", "1.", ".5", "-", "true.x", "False", "0x1", "1e3", "a{,{b,c}}", "9999999999999999", "[0-9]"))
	}
	n := call(d.of("f", "g", "sumSeries", "true", "false", "A_9", "None"))
	for range d.upTo(4) {
		n.Kids = append(n.Kids, d.node(depth-1))
	}
	return n
}

// spoilt is a node of which some field is another.
func (d *dice) spoilt(n api.Node) api.Node {
	n = tidy(n)
	at := &n
	for len(at.Kids) > 0 && d.upTo(4) > 0 {
		at = &at.Kids[d.upTo(len(at.Kids))]
	}
	switch d.upTo(4) {
	case 0:
		at.Kind = d.upTo(8) - 1
	case 1:
		at.Text = d.of("", "a", "b.c", "1", "-1.5", "true", "false", "a+b", "a,b", "'", `"`, `"'`, "9a", "a b", "f(")
	case 2:
		at.N = []int{0, 1, 2, -1, 5, high, -high, high + 1, -high - 1}[d.upTo(9)]
	default:
		at.Kids = append(slices.Clone(at.Kids), d.node(2))
	}
	return n
}

// inGoodTime breaks off what would go on for ages; what is well made takes a small part of that time.
func inGoodTime(t *testing.T, ask func()) {
	t.Helper()
	done := make(chan struct{})
	go func() {
		defer close(done)
		ask()
	}()
	select {
	case <-done:
	case <-time.After(time.Minute):
		t.Fatal("that takes too long")
	}
}

// over is a text in memory that is written over later.
func over(b []byte) string { return unsafe.String(unsafe.SliceData(b), len(b)) }

// meet tells whether two texts have a byte of memory in common.
func meet(a, b string) bool {
	first, second := uintptr(unsafe.Pointer(unsafe.StringData(a))), uintptr(unsafe.Pointer(unsafe.StringData(b)))
	return a != "" && b != "" && first < second+uintptr(len(b)) && second < first+uintptr(len(a))
}

// all is a node and those within it.
func all(n api.Node) []api.Node {
	l := []api.Node{n}
	for _, kid := range n.Kids {
		l = append(l, all(kid)...)
	}
	return l
}
