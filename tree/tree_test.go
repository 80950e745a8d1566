package tree_test

import (
	"math"
	"slices"
	"strings"
	"sync"
	"testing"

	"graticule/api"
	"graticule/tree"
)

func TestGivenLimits(t *testing.T) {
	if api.MaxDeep != deepest || api.MaxText != most || api.MaxN != high {
		t.Error("the limits are others:", api.MaxDeep, api.MaxText, api.MaxN)
	}
	if api.KindCall != 1 || api.KindPath != 2 || api.KindNumber != 3 || api.KindString != 4 || api.KindBool != 5 {
		t.Error("the kinds are others")
	}
}

// P15.1: expressions

func TestParse(t *testing.T) {
	a, b := path("a"), path("b")
	for _, x := range []struct {
		s    string
		want api.Node
	}{
		{"scale( a.* , 1.50)", call("scale", path("a.*"), number(1500000))},
		// numbers
		{"0", number(0)}, {"1", number(1000000)}, {"1.50", number(1500000)}, {"-1.5", number(-1500000)}, {"+1", number(1000000)}, {"+0.5", number(500000)}, {"-0", number(0)}, {"-0.0", number(0)}, {"007", number(7000000)}, {"00.10", number(100000)}, {"0.000001", number(1)}, {"-0.000001", number(-1)}, {"0.0000005", number(1)}, {"-0.0000005", number(-1)}, {"0.0000004999", number(0)}, {"1.0000000000", number(1000000)}, {"4611686018427.387904", number(high)}, {"-4611686018427.387904", number(-high)}, {"4611686018427.3879044", number(high)}, {" 5 ", number(5000000)}, {"\t-5\t", number(-5000000)}, {"+00000000000000000000000001", number(1000000)},
		// what only looks like one
		{"1.", path("1.")}, {".5", path(".5")}, {"1.5.2", path("1.5.2")}, {"1e3", path("1e3")}, {"0x1", path("0x1")}, {"1_000", path("1_000")}, {"-", path("-")}, {"--1", path("--1")}, {"-.5", path("-.5")}, {"-1.", path("-1.")}, {".", path(".")}, {"1-", path("1-")}, {"1a", path("1a")}, {"4611686018427.387905", path("4611686018427.387905")}, {"-4611686018427.3879045", path("-4611686018427.3879045")}, {"9999999999999999999999", path("9999999999999999999999")}, {"Inf", path("Inf")}, {"NaN", path("NaN")}, {"None", path("None")}, {"none", path("none")}, {"1{}", path("1{}")}, {"5d", path("5d")}, {"50%", path("50%")},
		// bools, and what only looks like one
		{"true", truth(1)}, {"false", truth(0)}, {" true\t", truth(1)}, {"True", path("True")}, {"FALSE", path("FALSE")}, {"TRUE", path("TRUE")}, {"truee", path("truee")}, {"tru", path("tru")}, {"true.", path("true.")}, {"-true", path("-true")}, {"false.true", path("false.true")}, {"{true}", path("{true}")}, {"t", path("t")},
		// paths
		{"a", a}, {"a.b.c", path("a.b.c")}, {"*", path("*")}, {"servers.web-01.*.{a,b}.[0-9]?", path("servers.web-01.*.{a,b}.[0-9]?")}, {"a.{b,c}", path("a.{b,c}")}, {"{a,{b,c}},", api.Node{}}, {"{a,{b,c}}", path("{a,{b,c}}")}, {"{,}", path("{,}")}, {"{}", path("{}")}, {"a:b#c%d@e=f_g", path("a:b#c%d@e=f_g")}, {"f", path("f")}, {"sumSeries", path("sumSeries")}, {" a ", a}, {"_a", path("_a")}, {"9a", path("9a")}, {"]", path("]")},
		// strings
		{`""`, quoted("")}, {"''", quoted("")}, {`"a"`, quoted("a")}, {"'a'", quoted("a")}, {`"it's"`, quoted("it's")}, {`'say "a"'`, quoted(`say "a"`)}, {`"1"`, quoted("1")}, {"'true'", quoted("true")}, {"'f(a)'", quoted("f(a)")}, {"'a,b'", quoted("a,b")}, {`" a "`, quoted(" a ")}, {"'\xff\x00\n'", quoted("\xff\x00\n")}, {"'+'", quoted("+")}, {"'{'", quoted("{")}, {` "x" `, quoted("x")}, {`'\'`, quoted(`\`)},
		// calls
		{"f()", call("f")}, {"f(a)", call("f", a)}, {"f(a,b)", call("f", a, b)}, {"f(a,b,a,b,b)", call("f", a, b, a, b, b)}, {"F_9()", call("F_9")}, {"f(1)", call("f", number(1000000))}, {"f(true)", call("f", truth(1))}, {"f('x')", call("f", quoted("x"))}, {"f(a,1,'x',\"y\",true,false,g())", call("f", a, number(1000000), quoted("x"), quoted("y"), truth(1), truth(0), call("g"))}, {"f(f)", call("f", path("f"))}, {"f(+1,-1)", call("f", number(1000000), number(-1000000))}, {"f({a,b},c)", call("f", path("{a,b}"), path("c"))}, {"f('')", call("f", quoted(""))}, {"f('a','b')", call("f", quoted("a"), quoted("b"))}, {"f(true,true)", call("f", truth(1), truth(1))},
		// blanks
		{"f ()", call("f")}, {"f\t(a)", call("f", a)}, {"  f  (  a  ,  b  )  ", call("f", a, b)}, {"f( )", call("f")}, {"f(\t)", call("f")}, {"f (g (a) , h ( ))", call("f", call("g", a), call("h"))}, {"true (1)", call("true", number(1000000))},
		// calls within calls
		{"f(g())", call("f", call("g"))}, {"f(g(),h())", call("f", call("g"), call("h"))}, {"f(g(a),b)", call("f", call("g", a), b)}, {"f(a,g(b))", call("f", a, call("g", b))}, {"f(g(a,b),h(b,a),a)", call("f", call("g", a, b), call("h", b, a), a)}, {"f(g(h(a)))", call("f", call("g", call("h", a)))}, {"f(g(h(),a),b)", call("f", call("g", call("h"), a), b)}, {"f(f(f()))", chain(3)},
		// bools that are called
		{"true()", call("true")}, {"false()", call("false")}, {"true(1)", call("true", number(1000000))}, {"false(true,false)", call("false", truth(1), truth(0))}, {"true(false())", call("true", call("false"))}, {"f(true(a))", call("f", call("true", a))}, {"None()", call("None")},
	} {
		if x.want.Kind == 0 {
			parseFails(t, x.s, api.ErrSyntax)
			continue
		}
		parseIs(t, x.s, x.want)
	}
}

// P15.1: errors

func TestErrorsOfLex(t *testing.T) {
	for _, s := range []string{
		"\n", "$", "a\n", "'", `"`, "'a", "{", "}", "a{", "f(a", "ä", "f(a;b)", "a/b", "f('a)", "f({a)", "f(a})",
		// behind what would be an error of its own
		") $", ",,\n", "f(,'", "a b {", "1( }", "a+b $", "f()) \xff", "f(a)) '", strings.Repeat("f(", deepest) + "a $", strings.Repeat("f(", deepest) + "$", strings.Repeat("f(", deepest+1) + "'", within(deepest+1, "") + "}", within(deepest, "a") + "\n",
	} {
		parseFails(t, s, api.ErrSyntax)
	}
	row := strings.Repeat
	for _, n := range []int{most + 1, most + 2, 2 * most, 1 << 16, 1<<16 + 1, 1 << 20} {
		for _, s := range []string{
			row("a", n), row(" ", n), "'" + row("x", n-2) + "'", row("1", n), row("0", n-1) + "1", "f(" + row(" ", n-3) + ")",
			// and what is wrong in another way
			row("(", n), row(")", n), row(",", n), row("$", n), row("a ", n/2) + row(" ", n%2), row("'", n), row("f(", n/2) + row(" ", n%2), within(deepest, "a") + row(" ", n-3*deepest-1), within(deepest+1, "") + row(" ", n-3*deepest-3), "$" + row(" ", n-1), row("+", n),
		} {
			if len(s) != n {
				t.Fatalf("%s has %d bytes, not %d", short(s), len(s), n)
			}
			parseFails(t, s, api.ErrLimit)
		}
	}
}

func TestSyntaxErrorsOfParse(t *testing.T) {
	for _, s := range []string{
		// none
		"", " ", "\t", "  \t ",
		// a sign where an expression is expected
		"(", ")", ",", "()", "(a)", "(a", ")a", ",a", "((a))", " ( a ) ", "f(()", "f(())", "f((a))", "f(,", "f(,)", "f(,a)", "f(a,,b)", "f(a,(b))", "f(a,)", "f(a, )", "f(g(),)", "f(a,b,)", "f(a,)b", "f(a,(", "f(,,)", "f(g(,))", ")(", "f)", "f)(",
		// two side by side
		"a b", "a 'x'", "'x''y'", "'x' a", "1 2", "true false", "f() g()", "f()a", "f()'x'", "a f()", "f(a b)", "f(a 'x')", "f('x' 'y')", "f(a g())", "f(g() a)", "f(g()h())", "f(g()'x')", "f(1 2)", "f(a b,c)", "f(a,b c)", "f(true true)", `"a"b`,
		// tokens behind
		"f())", "f(a))", "a)", "1)", "'x')", "true)", "f(a),", "a,", "a,b", "f(),g()", "'x','y'", "f()(", "f()()", "f(a)(b)", "f(a) (b)", "f(a)(", "f()f", "1,", ",1", "f(g()))", "f(a)1", "{a},b",
		// no identifier ahead of an Open
		"1(", "1()", "1(a)", "-1(a)", "a.b(", "a.b()", "a.b(c)", "*(a)", "9a(b)", "_f(a)", "f-g(a)", "f:g()", "{f}(a)", "'f'(a)", `"f"()`, "''()", "f(1(a))", "f(a.b())", "f('x'())", "f.(a)", "1.5 (a)", ".(a)", "true.()", "f?(a)", "[f](a)", "1 ()",
		// words with a plus that are no number
		"+", "a+", "+a", "a+b", "++1", "1+", "1+1", "+1.", "+.5", "+-1", "-+1", "{+}", "a.{b,+}", "+true", "true+", "+4611686018427.387905", "+99999999999999999999", "f(+)", "f(a+b)", "f(a,b+)", "f(+,a)", "a+()", "f+(a)", "+(a)", "f(1+1)", "1e+3", "f(f+())",
		// no end
		"f(", "f( ", "f(a", "f(a,", "f(a,b", "f(g(", "f(g()", "f(g(),", "f(g(a)", "f('x'", "f(1", "f(true", "f(a ", "true(", "false(a", "f(g(h(a))", "f(a,g(", "f(a,g(b)",
	} {
		parseFails(t, s, api.ErrSyntax)
	}
}

func TestTooDeepExpressions(t *testing.T) {
	open := strings.Repeat
	// just deep enough
	parseIs(t, within(deepest, ""), chain(deepest))
	parseIs(t, within(deepest, " \t "), chain(deepest))
	parseIs(t, within(deepest-1, "a"), chain(deepest-1, path("a")))
	parseIs(t, within(deepest-1, "1"), chain(deepest-1, number(1000000)))
	parseIs(t, within(deepest-1, "'x'"), chain(deepest-1, quoted("x")))
	parseIs(t, within(deepest-1, "true"), chain(deepest-1, truth(1)))
	parseIs(t, within(deepest-1, "true()"), chain(deepest-1, call("true")))
	parseIs(t, within(deepest-1, "f(),a,f(),b"), chain(deepest-1, call("f"), path("a"), call("f"), path("b")))
	parseIs(t, strings.Repeat("f ( ", deepest)+strings.Repeat(" ) ", deepest), chain(deepest))
	// one more, whatever the next token is
	for _, s := range []string{"", "a", "a)", "1", "'x'", "''", "true", "f", "f(", "f()", "f())", "(", "()", ",", ",a", ",)", "a,b", "a b", "a+b", "+", "a.b(", "1(", " ", "\t", " a", " ,", within(10, ""), "a" + open(")", deepest), "f()" + open(")", deepest), "f()" + open(")", deepest+1), "a" + open(")", deepest) + "b", open("f(", 1000), open("(", 100), open(",", 100)} {
		parseFails(t, open("f(", deepest)+s, api.ErrDeep)
		parseFails(t, open(" f\t(", deepest)+s, api.ErrDeep)
		parseFails(t, "g(a,1,'x',true,h(),"+open("f(", deepest-1)+s, api.ErrDeep)
		parseFails(t, "g("+within(deepest-1, "")+","+within(deepest-2, "a")+","+open("f(", deepest-1)+s, api.ErrDeep)
		parseFails(t, open("f(a,", deepest-1)+"f("+s, api.ErrDeep)
		parseFails(t, open("f(", deepest-1)+"f(),f("+s, api.ErrDeep)
		parseFails(t, open("f(", deepest-1)+"a,'x',f("+s, api.ErrDeep)
	}
	// a Close directly behind the Open ends the call, whatever is behind it
	for _, s := range []string{"", "a", ",", ",,", "(", "f", "f(", "'x'", ",a", ")", " 1", ",f()", ",f(),"} {
		parseFails(t, open("f(", deepest)+")"+s, api.ErrSyntax)
	}
	parseFails(t, open("f(", deepest)+"),f(", api.ErrDeep)
	parseFails(t, open("f(", deepest)+"),f(a", api.ErrDeep)
	parseFails(t, open("f(", deepest)+")),f(f(a", api.ErrDeep)
	// not so deep yet
	for _, s := range []string{"", "a", "1", ",", "(", "f", ")", "f)", "(f(a)", "1(", "1(f(a", "a.b(f(", "a+b(", "'x'(f(", "a f(f(", "a,", "f(),", "f() f(a)", "f()(", ",f(a)"} {
		parseFails(t, open("f(", deepest-1)+s, api.ErrSyntax)
	}
	for _, n := range []int{1, 2, 3, 10, deepest - 2, deepest - 1, deepest, deepest + 1, deepest + 2, 100, 128, 256, 1000, most / 3} {
		reads(t, within(n, ""))
		reads(t, within(n, "a"))
		reads(t, open("f(", n))
		reads(t, open("f(", n)+")")
		reads(t, open("(", n))
		reads(t, open("1(", n))
	}
}

// Where both errors are in one text, the first one is told.
func TestFirstErrors(t *testing.T) {
	deep, over := within(deepest-1, "a"), within(deepest, "a")
	for _, x := range []struct {
		s    string
		want api.Errno
	}{
		{over + ")", api.ErrDeep}, {over + " a", api.ErrDeep}, {over + ",", api.ErrDeep}, {strings.TrimRight(over, ")"), api.ErrDeep}, {"f(" + deep + ",,)", api.ErrDeep}, {"f(" + deep, api.ErrDeep}, {"f(" + deep + "))", api.ErrDeep}, {"f(a," + deep + " b)", api.ErrDeep}, {"f(" + deep + ",a+b)", api.ErrDeep}, {strings.Repeat("f(", deepest) + ",", api.ErrDeep},
		{")" + over, api.ErrSyntax}, {"a " + over, api.ErrSyntax}, {", " + over, api.ErrSyntax}, {"(" + over, api.ErrSyntax}, {"f(," + deep + ")", api.ErrSyntax}, {"f(a b," + deep + ")", api.ErrSyntax}, {"f(a+b," + deep + ")", api.ErrSyntax}, {"f(a," + "," + deep + ")", api.ErrSyntax}, {"f(a " + deep + ")", api.ErrSyntax}, {"f()" + over, api.ErrSyntax}, {"f())" + over, api.ErrSyntax}, {"1(" + over + ")", api.ErrSyntax}, {"a.b(" + over + ")", api.ErrSyntax}, {"f(1(" + over + "))", api.ErrSyntax}, {"'x'(" + over + ")", api.ErrSyntax}, {"a+b" + over, api.ErrSyntax}, {"f((" + over + "))", api.ErrSyntax}, {deep + over, api.ErrSyntax}, {within(deepest, "") + over, api.ErrSyntax}, {deep + "," + over, api.ErrSyntax}, {"+" + " " + over, api.ErrSyntax},
	} {
		parseFails(t, x.s, x.want)
		reads(t, x.s)
	}
}

// A call that has ended is not counted any more, nor what it was in.
func TestCallsSideBySide(t *testing.T) {
	row := strings.Repeat
	for _, x := range []struct{ s, again string }{{"f()", "f()"}, {within(deepest-1, ""), within(deepest-1, "")}, {within(deepest-2, "a"), within(deepest-2, "b")}, {"f(g(),h())", "f(g(h()))"}, {"a", within(deepest-1, "")}} {
		for n := range 11 {
			s := "g(" + row(x.s+","+x.again+",", n) + x.s + ")"
			if want, err := parseOf(s); err != api.OK || len(want.Kids) != 2*n+1 {
				t.Fatal("the model is wrong of", short(s))
			}
			reads(t, s)
		}
	}
	n := call("f")
	for range 20 {
		n = call("g", call("f"), n, call("f", call("f")))
	}
	comesBack(t, n)
	parseIs(t, "f("+row("a,", 2000)+"a)", call("f", slices.Repeat([]api.Node{path("a")}, 2001)...))
	parseIs(t, "f("+row("g(),", 800)+"g())", call("f", slices.Repeat([]api.Node{call("g")}, 801)...))
}

// P15.1, against the model

func TestShortTargets(t *testing.T) {
	for _, x := range []struct {
		pieces []string
		most   int
	}{
		{[]string{"f(", ")", ",", "a"}, 8},
		{[]string{"f", "(", ")", ",", " ", "1"}, 6},
		{[]string{"true", "(", ")", ",", " ", "'x'"}, 6},
		{[]string{"a", "+", "1", ".", "-", "(", ")", "e", "{", "}", ","}, 5},
		{[]string{"f(", "f", ")", ",", "1", "'", `"`, " ", "false", "a.b", "$"}, 5},
	} {
		for _, s := range listsOf(x.pieces, x.most) {
			reads(t, s)
		}
	}
}

func TestShortEndsOfDeepTargets(t *testing.T) {
	ends := listsOf([]string{"f(", ")", ",", "a", " ", "("}, 4)
	for _, n := range []int{deepest - 2, deepest - 1, deepest} {
		for _, s := range ends {
			reads(t, strings.Repeat("f(", n)+s)
			reads(t, "f("+strings.Repeat("f(a,", n-1)+s+strings.Repeat(")", n))
		}
	}
}

func TestScatteredTargets(t *testing.T) {
	d := dice{1}
	found := map[api.Errno]int{}
	for range 50000 {
		s := d.text(12, "a", "f(", "g(", ")", ",", ")", ",", " ", "1", "-1.5", "'x'", `"y"`, "true", "f", "(", "+", "{b,c}", "h()")
		reads(t, s)
		_, err := parseOf(s)
		found[err]++
	}
	// right ones of which a byte is taken away, or another one put in
	for range 20000 {
		n := d.node(5)
		if d.upTo(3) == 0 {
			n = chain(1+d.upTo(deepest+4), n)
		}
		s := textOf(n, func() string { return "" })
		_, err := parseOf(s)
		found[err]++
		reads(t, s)
		i := d.upTo(len(s))
		reads(t, s[:i])
		reads(t, s[i:])
		reads(t, s[:i]+s[i+1:])
		reads(t, s[:i]+d.of("(", ")", ",", "a", " ", "'", "+", "f(", "1", "$")+s[i:])
	}
	if found[api.OK] < 10000 || found[api.ErrSyntax] < 30000 || found[api.ErrDeep] < 200 {
		t.Error("no more than these were found:", found)
	}
}

// P15.2: Print and Is

func TestPrint(t *testing.T) {
	for _, x := range []struct {
		n    api.Node
		want string
	}{
		{call("scale", path("a.*"), number(1500000)), "scale(a.*,1.5)"},
		// calls
		{call("f"), "f()"}, {call("F_9z"), "F_9z()"}, {call("f", path("a")), "f(a)"}, {call("f", path("a"), path("b"), path("a")), "f(a,b,a)"}, {call("f", call("g", call("h")), call("i")), "f(g(h()),i())"}, {call("f", quoted("x"), quoted(`"`), truth(1), number(-1), path("{a,b}")), `f("x",'"',true,-0.000001,{a,b})`}, {call("true"), "true()"}, {call("false", truth(0)), "false(false)"}, {call("None"), "None()"}, {call("f", []api.Node{}...), "f()"},
		// paths
		{path("a"), "a"}, {path("*"), "*"}, {path("a.{b,{c,d}}.[0-9]?"), "a.{b,{c,d}}.[0-9]?"}, {path("f"), "f"}, {path("True"), "True"}, {path("1."), "1."}, {path("-"), "-"}, {path("1e3"), "1e3"}, {path("4611686018427.387905"), "4611686018427.387905"}, {path("a:b#c%d@e=f_g-h"), "a:b#c%d@e=f_g-h"}, {path("{}"), "{}"},
		// numbers
		{number(0), "0"}, {number(1), "0.000001"}, {number(-1), "-0.000001"}, {number(1000000), "1"}, {number(-1000000), "-1"}, {number(-1500000), "-1.5"}, {number(12345670), "12.34567"}, {number(high), "4611686018427.387904"}, {number(-high), "-4611686018427.387904"}, {number(100 * 1000000), "100"},
		// strings
		{quoted(""), `""`}, {quoted("a"), `"a"`}, {quoted("it's"), `"it's"`}, {quoted("'"), `"'"`}, {quoted("'''"), `"'''"`}, {quoted(`"`), `'"'`}, {quoted(`say "a"`), `'say "a"'`}, {quoted(`""`), `'""'`}, {quoted("f(a,"), `"f(a,"`}, {quoted(" a "), `" a "`}, {quoted("1"), `"1"`}, {quoted("true"), `"true"`}, {quoted("\x00\n\xff"), "\"\x00\n\xff\""}, {quoted(`\`), `"\"`}, {quoted("ä"), `"ä"`}, {quoted("`"), "\"`\""},
		// bools
		{truth(0), "false"}, {truth(1), "true"},
	} {
		printIs(t, x.n, x.want)
		printIs(t, call("f", x.n), "f("+x.want+")")
		comesBack(t, x.n)
		holds(t, x.n)
		// an empty list is as good as none
		if x.n.Kids == nil {
			x.n.Kids = []api.Node{}
			printIs(t, x.n, x.want)
		}
	}
}

func TestNodesThatAreNotValid(t *testing.T) {
	a := []api.Node{path("a")}
	for _, n := range []api.Node{
		// unknown kinds
		{}, {Kind: 6}, {Kind: -1}, {Kind: 7, Text: "a"}, {Kind: 6, Text: "f", Kids: a}, {Text: "a"}, {N: 1}, {Kids: a}, {Text: "f", Kids: a}, {Kind: 1 << 8}, {Kind: 1<<8 + 2, Text: "a"}, {Kind: 1<<16 + 5}, {Kind: 1<<32 + 4}, {Kind: math.MinInt}, {Kind: math.MaxInt},
		// calls
		call(""), call("9f"), call("_f"), call("a.b"), call("f-g"), call(" f"), call("f "), call("f("), call("f()"), call("*"), call("'f'"), call("+f"), call("f+"), call("ä"), call("f\n"), call("f\x00"), call("", path("a")), call("a.b", path("a")), call("1"), {Kind: api.KindCall, Text: "f", N: 1}, {Kind: api.KindCall, Text: "f", N: -1, Kids: a}, {Kind: api.KindCall, Text: "f", N: math.MinInt},
		// paths
		path(""), path(" "), path("a b"), path(" a"), path("a "), path("a,b"), path("{a"), path("a}"), path("a+b"), path("+"), path("a("), path("f()"), path("'a'"), path("ä"), path("a\n"), path("$"), path(strings.Repeat("a", most+1)),
		path("1"), path("0"), path("-1.5"), path("+1"), path("007"), path("0.0000001"), path("4611686018427.387904"), path("-4611686018427.387904"), path("true"), path("false"),
		{Kind: api.KindPath, Text: "a", N: 1}, {Kind: api.KindPath, Text: "a", N: -1}, {Kind: api.KindPath, Text: "a", N: math.MinInt}, {Kind: api.KindPath, Text: "a", Kids: a}, {Kind: api.KindPath, Text: "a", Kids: []api.Node{{}}},
		// numbers
		number(high + 1), number(-high - 1), number(math.MaxInt), number(math.MinInt), {Kind: api.KindNumber, Text: "1"}, {Kind: api.KindNumber, Text: "1", N: 1000000}, {Kind: api.KindNumber, Text: " "}, {Kind: api.KindNumber, N: 1, Kids: a}, {Kind: api.KindNumber, Kids: []api.Node{{}}},
		// strings
		quoted(`"'`), quoted(`'"`), quoted(`it's "a"`), quoted(`"a" 'b'`), {Kind: api.KindString, Text: "x", N: 1}, {Kind: api.KindString, N: -1}, {Kind: api.KindString, Text: "x", Kids: a}, {Kind: api.KindString, Kids: []api.Node{{}}}, {Kind: api.KindString, Text: "x", N: math.MinInt},
		// bools
		truth(2), truth(-1), truth(1000000), truth(math.MaxInt), truth(math.MinInt), truth(1 << 32), truth(1<<32 + 1), truth(1 << 8), {Kind: api.KindBool, Text: "true", N: 1}, {Kind: api.KindBool, Text: "false"}, {Kind: api.KindBool, Text: " "}, {Kind: api.KindBool, N: 1, Kids: a}, {Kind: api.KindBool, Kids: []api.Node{{}}},
	} {
		for _, x := range []api.Node{
			n, call("f", n), call("f", path("a"), n), call("f", n, path("a")), call("f", path("a"), n, path("b")), call("f", call("g", call("h", n))), call("f", call("g"), call("h", path("a"), call("i", n)), path("b")), chain(deepest-1, n), chain(deepest-2, path("a"), n, path("b")),
		} {
			printIs(t, x, "")
			holds(t, x)
		}
	}
}

// What is valid, or not, hangs on nothing but depth here.
func TestDepthsThatAreValid(t *testing.T) {
	for _, n := range []int{1, 2, deepest - 2, deepest - 1, deepest, deepest + 1, deepest + 2, 2 * deepest, 1 << 8, 1 << 12} {
		for _, x := range []struct {
			n     api.Node
			depth int
			want  string
		}{
			{chain(n), n, within(n, "")},
			{chain(n, path("a")), n + 1, within(n, "a")},
			{chain(n, number(1)), n + 1, within(n, "0.000001")},
			{chain(n, path("a"), call("g")), n + 1, within(n, "a,g()")},
			{call("g", path("a"), chain(n), path("b")), n + 1, "g(a," + within(n, "") + ",b)"},
			{call("g", chain(n, path("a")), chain(1)), n + 2, "g(" + within(n, "a") + ",f())"},
		} {
			depthIs(t, x.n, x.depth)
			if x.depth > deepest {
				printIs(t, x.n, "")
				continue
			}
			printIs(t, x.n, x.want)
			comesBack(t, x.n)
		}
	}
}

// All nodes of a few values for each field.
func TestSmallNodes(t *testing.T) {
	texts := []string{"", "a", "a.b", "f", "1", "-1.50", "+1", "true", "false", "None", "a+", "{a,b}", "{a", "a,b", "'", `"`, `"'`, " ", "a b", "9f", "_", "\xff", "1.", strings.Repeat("a", most), strings.Repeat("a", most+1), strings.Repeat("1", most)}
	numbers := []int{0, 1, 2, -1, 1000000, high - 1, high, high + 1, -high + 1, -high, -high - 1, math.MaxInt, math.MinInt}
	lists := [][]api.Node{nil, {}, {path("a")}, {{}}, {truth(1), quoted("x")}, {truth(2)}, {call("f")}, {path("a"), call("9")}}
	valid := 0
	for kind := -1; kind <= 7; kind++ {
		for _, s := range texts {
			for _, x := range numbers {
				for _, kids := range lists {
					n := api.Node{Kind: kind, Text: s, N: x, Kids: kids}
					holds(t, n)
					if tree.Is(n) {
						valid++
						comesBack(t, n)
					}
				}
			}
		}
	}
	if valid < 100 {
		t.Error("so many are valid:", valid)
	}
}

func TestScatteredNodes(t *testing.T) {
	d := dice{2}
	valid := 0
	for range 50000 {
		n := d.node(6)
		holds(t, n)
		x := d.spoilt(n)
		holds(t, x)
		sameIs(t, n, x, sameOf(n, x))
		if isOf(x) {
			valid++
			comesBack(t, x)
		}
		holds(t, d.spoilt(x))
	}
	if valid < 5000 || valid > 45000 {
		t.Error("so many are valid:", valid)
	}
}

// A path or a string may have any byte that its words allow, and no other.
func TestEachByte(t *testing.T) {
	for i := range 256 {
		c := string([]byte{byte(i)})
		for _, s := range []string{c, "a" + c, c + "a", "a" + c + "b", c + c, "1" + c, "'" + c, c + `"`} {
			for kind := range 7 {
				n := api.Node{Kind: kind, Text: s}
				holds(t, n)
				holds(t, call("f", n, n))
				if isOf(n) {
					comesBack(t, call("f", n, n))
				}
			}
			reads(t, s)
			reads(t, "f("+s+")")
		}
	}
}

// P15.2: Same

func TestSame(t *testing.T) {
	a, b := path("a"), path("b")
	var nodes []api.Node
	for _, n := range []api.Node{
		{}, {Kind: 6}, {Kind: -1}, {N: 1}, {Text: "a"}, {Kids: []api.Node{a}}, {Kids: []api.Node{{}}}, {Kids: []api.Node{{}, {}}},
		a, b, path(""), path("A"), path("a "), path("a\x00"), quoted("a"), quoted("b"), quoted("1"), number(1), number(0), number(-1), number(high), number(1 << 32), number(1 << 8), truth(0), truth(1), truth(2),
		{Kind: api.KindPath, Text: "a", N: 1}, {Kind: api.KindPath, Text: "a", Kids: []api.Node{a}}, {Kind: api.KindNumber, Text: "1", N: 1}, {Kind: api.KindString, Text: "a", Kids: []api.Node{b}}, {Kind: api.KindBool, N: 1, Kids: []api.Node{{}}},
		call("f"), call("g"), call("f", a), call("f", b), call("f", a, a), call("f", a, b), call("f", b, a), call("f", a, b, a), call("f", quoted("a")), {Kind: api.KindCall, Text: "f", N: 1}, {Kind: api.KindCall, Text: "f", N: 1, Kids: []api.Node{a}},
		call("f", call("f")), call("f", call("g")), call("f", call("f", a)), call("f", call("f", b)), call("f", call("f"), a), call("f", a, call("f")), call("f", call("f", a), call("f", a)), call("f", call("f", a), call("f", b)),
		chain(10), chain(11), chain(10, a), chain(10, b), chain(10, a, a), chain(10, number(1)), chain(10, number(2)), chain(10, api.Node{Kind: api.KindPath, Text: "a", Kids: []api.Node{a}}), chain(deepest), chain(deepest + 1), chain(deepest+1, a), chain(1000), chain(1001),
	} {
		nodes = append(nodes, n)
	}
	for i, x := range nodes {
		for j, y := range nodes {
			sameIs(t, x, tidy(y), i == j)
		}
	}
	// nil Kids and empty ones
	none, empty := api.Node{Kind: 1, Text: "f"}, api.Node{Kind: 1, Text: "f", Kids: []api.Node{}}
	for _, x := range []struct{ a, b api.Node }{{none, empty}, {call("f", none), call("f", empty)}, {call("f", a, empty), call("f", a, none)}, {path("a"), api.Node{Kind: 2, Text: "a", Kids: []api.Node{}}}, {api.Node{}, api.Node{Kids: []api.Node{}}}, {empty, api.Node{Kind: 1, Text: "f", Kids: make([]api.Node, 0, 5)}}} {
		sameIs(t, x.a, x.b, true)
		sameIs(t, x.a, x.a, true)
		sameIs(t, x.b, x.b, true)
	}
	// a list that has more room than another, and lists in the same memory
	room := append(make([]api.Node, 0, 10), a, b)
	sameIs(t, call("f", room...), call("f", a, b), true)
	sameIs(t, call("f", room...), call("f", room[:1]...), false)
	sameIs(t, call("f", room[:1]...), call("f", room[1:]...), false)
}

// P15.2: Depth

func TestDepth(t *testing.T) {
	a := path("a")
	inner := []api.Node{call("f", call("g"))}
	for _, x := range []struct {
		n    api.Node
		want int
	}{
		{a, 1}, {number(1), 1}, {quoted(""), 1}, {truth(1), 1}, {call("f"), 1}, {call("f", []api.Node{}...), 1}, {call("f", a), 2}, {call("f", a, a, a), 2}, {call("f", call("g")), 2}, {call("f", call("g", a)), 3}, {call("f", call("g", a), a), 3}, {call("f", a, call("g", a)), 3}, {call("f", call("g"), call("h", call("i", a)), call("j", a)), 4}, {call("f", call("h", call("i", a)), call("g")), 4},
		// nodes that are not valid
		{api.Node{}, 1}, {api.Node{Kind: 6}, 1}, {api.Node{Kind: -1, Kids: inner}, 1}, {api.Node{Kids: inner}, 1}, {api.Node{Kind: 6, Text: "f", Kids: inner}, 1}, {api.Node{Kind: api.KindPath, Text: "a", Kids: inner}, 1}, {api.Node{Kind: api.KindNumber, Kids: inner}, 1}, {api.Node{Kind: api.KindString, Kids: inner}, 1}, {api.Node{Kind: api.KindBool, Kids: inner}, 1}, {call(""), 1}, {call("9", a), 2}, {call("", inner...), 3}, {api.Node{Kind: api.KindCall, N: 5, Kids: inner}, 3}, {call("f", api.Node{}), 2}, {call("f", api.Node{Kind: api.KindPath, Kids: inner}), 2}, {call("f", api.Node{Kind: 7, Kids: inner}, call("g", a)), 3}, {call("f", truth(7)), 2}, {call("f", number(high+1)), 2}, {path("1"), 1}, {quoted(`"'`), 1}, {truth(5), 1},
		// deeper than what is valid
		{chain(deepest), deepest}, {chain(deepest + 1), deepest + 1}, {chain(deepest, a), deepest + 1}, {chain(1000), 1000}, {chain(1 << 12), 1 << 12}, {call("f", a, chain(1000), chain(999), call("g")), 1001},
	} {
		depthIs(t, x.n, x.want)
		depthIs(t, call("f", x.n), x.want+1)
		depthIs(t, call("", a, x.n), max(x.want, 1)+1)
		holds(t, x.n)
	}
}

// P15.3: there and back

func TestThereAndBack(t *testing.T) {
	d := dice{3}
	blanks := func() string { return d.text(2, " ", "\t", "") }
	for range 20000 {
		n := d.node(6)
		if d.upTo(4) == 0 {
			n = chain(1+d.upTo(deepest-6), n)
		}
		comesBack(t, n)
		// what was read is printed without blanks, and read once more
		s := blanks() + textOf(n, blanks) + blanks()
		if len(s) > most {
			parseFails(t, s, api.ErrLimit)
			continue
		}
		parseIs(t, s, n)
		got, _ := tree.Parse(s)
		if text := tree.Print(got); text != printOf(n) {
			t.Errorf("%s is printed as %s, not %s", short(s), short(text), short(printOf(n)))
		}
		comesBack(t, got)
	}
}

// A text that is no target has no node; any other is printed and read as the same node.
func TestTextsThatAreRead(t *testing.T) {
	for _, s := range listsOf([]string{"f(", ")", ",", "a", "1", "'", `"`, " ", "true", "+"}, 5) {
		n, err := tree.Parse(s)
		if err == api.OK {
			if !tree.Is(n) {
				t.Errorf("%s is read as %s, which is not valid", short(s), short(n))
			}
			comesBack(t, n)
		}
	}
}

func TestLongTargets(t *testing.T) {
	row := strings.Repeat
	for n := most - 3; n <= most+3; n++ {
		for _, x := range []struct {
			n    api.Node
			want string
		}{
			{quoted(row("x", n-2)), `"` + row("x", n-2) + `"`},
			{quoted(row("'", n-2)), `"` + row("'", n-2) + `"`},
			{quoted(row(`"`, n-2)), "'" + row(`"`, n-2) + "'"},
			{quoted(row("ä", n/2-1) + row("\xff", n%2)), `"` + row("ä", n/2-1) + row("\xff", n%2) + `"`},
			{call(row("f", n-2)), row("f", n-2) + "()"},
			{call("f", path(row("a", n-3))), "f(" + row("a", n-3) + ")"},
			{call("f", quoted(row("x", n-5))), `f("` + row("x", n-5) + `")`},
			{chain(deepest-1, quoted(row("x", n-3*deepest+1))), within(deepest-1, `"`+row("x", n-3*deepest+1)+`"`)},
			{call("f", append(slices.Repeat([]api.Node{truth(1)}, 800), path(row("a", n-4003)))...), "f(" + row("true,", 800) + row("a", n-4003) + ")"},
		} {
			if len(x.want) != n {
				t.Fatalf("%s has %d bytes, not %d", short(x.want), len(x.want), n)
			}
			printIs(t, x.n, x.want)
			comesBack(t, x.n)
			reads(t, x.want)
		}
		// a path by itself has no more than MaxText bytes
		for _, s := range []string{row("a", n), "{" + row(",", n-2) + "}", row("1", n-1) + "."} {
			want := ""
			if n <= most {
				want = s
				parseIs(t, s, path(s))
			}
			printIs(t, path(s), want)
			printIs(t, call("f", path(s)), map[bool]string{true: "f(" + s + ")"}[n <= most])
		}
	}
	// numbers with very many noughts
	parseIs(t, row("0", most-1)+"1", number(1000000))
	parseIs(t, "-"+row("0", most-4)+"1.5", number(-1500000))
	parseIs(t, "1."+row("0", most-2), number(1000000))
	parseIs(t, row("9", most), path(row("9", most)))
	// texts far longer than what can be read
	for _, n := range []int{1 << 16, 1 << 20} {
		printIs(t, quoted(row("x", n)), `"`+row("x", n)+`"`)
		printIs(t, call(row("f", n)), row("f", n)+"()")
		comesBack(t, call(row("f", n), quoted(row("x", n))))
		printIs(t, path(row("a", n)), "")
		printIs(t, quoted(row("x", n)+`'"`), "")
		printIs(t, quoted(`"'`+row("x", n)), "")
		printIs(t, call(row("f", n)+"."), "")
		printIs(t, call("f", slices.Repeat([]api.Node{path("a")}, n)...), "f("+row("a,", n-1)+"a)")
		printIs(t, call("f", append(slices.Repeat([]api.Node{path("a")}, n), truth(2))...), "")
	}
}

// W1: whatever is handed in, it ends.
func TestItEnds(t *testing.T) {
	inGoodTime(t, func() {
		for _, s := range []string{"", "a", "f(", ")", ",", "(", "f()", "f(a,", "f(f(),", "'x'", "'", `"`, "1", "1.", "+", "-", "true", "true(", " ", "{", "}", "{,}", "\n", "\xff"} {
			for _, n := range []int{1, 2, deepest, deepest + 1, most / 6, most / 2, most, most + 1, 1 << 20} {
				reads(t, strings.Repeat(s, min(n, 2*most)))
				if x, err := tree.Parse(strings.Repeat(s, n)); err != api.OK && !sameOf(x, api.Node{}) {
					t.Errorf("beside the error %d stands %s", err, short(x))
				}
			}
		}
		for _, n := range []int{1 << 16, 1 << 18} {
			x, same, other := chain(n), chain(n), chain(n, truth(1))
			depthIs(t, x, n)
			depthIs(t, other, n+1)
			depthIs(t, call("f", path("a"), other, path("b")), n+2)
			printIs(t, x, "")
			printIs(t, call("f", path("a"), x), "")
			sameIs(t, x, same, true)
			sameIs(t, x, other, false)
			wrong := api.Node{Kind: 6, Kids: []api.Node{x}}
			depthIs(t, wrong, 1)
			printIs(t, wrong, "")
			sameIs(t, wrong, api.Node{Kind: 6, Kids: []api.Node{same}}, true)
		}
		wide := call("f", slices.Repeat([]api.Node{call("g", slices.Repeat([]api.Node{path("a")}, 1<<9)...)}, 1<<9)...)
		depthIs(t, wide, 3)
		printIs(t, wide, "f("+strings.Repeat("g("+strings.Repeat("a,", 1<<9-1)+"a),", 1<<9-1)+"g("+strings.Repeat("a,", 1<<9-1)+"a))")
		sameIs(t, wide, tidy(wide), true)
	})
}

// P15.3

var samples = []string{
	"", "a", "1", "true", "'x'", "f()", "scale( a.* , 1.50)", "f(a,a,'a',\"a\",f(a),f(a))", "f(g(h(a,b),c),d,e,f,g,h)", "true(true)", "f(a", "a b", "'", within(deepest, ""), within(deepest, "a"), `f("it's",'"')`, "abc.def", "sumSeries",
}

func TestResultsShareNoMemory(t *testing.T) {
	var nodes []api.Node
	var texts []string
	take := func(s string) {
		for _, x := range slices.Concat(texts, samples) {
			if meet(s, x) {
				t.Errorf("the result %q and %q have a byte of memory in common", s, x)
			}
		}
		texts = append(texts, s)
	}
	for range 2 {
		for _, s := range samples {
			n, _ := tree.Parse(s)
			nodes = append(nodes, n)
			for _, x := range all(n) {
				take(x.Text)
			}
		}
	}
	for range 2 {
		for _, n := range nodes {
			take(tree.Print(n))
		}
	}
}

// What a caller writes into a list of a result, also behind its end, changes no other list.
func TestResultsThatAreWrittenOver(t *testing.T) {
	for _, s := range samples {
		first, err := tree.Parse(s)
		again, _ := tree.Parse(s)
		want, wantErr := parseOf(s)
		if !sameOf(first, want) || err != wantErr {
			t.Fatalf("Parse(%s) is %s, %d", short(s), short(first), err)
		}
		lists := all(first)
		for _, x := range lists {
			room := x.Kids[len(x.Kids):cap(x.Kids)]
			for i := range room {
				room[i] = call("written", path("over"))
			}
			if !sameOf(first, want) {
				t.Errorf("Parse(%s): a list has the room of another: %s", short(s), short(first))
			}
		}
		for _, x := range lists {
			for i := range x.Kids {
				x.Kids[i] = call("written", path("over"))
			}
		}
		if !sameOf(again, want) {
			t.Errorf("Parse(%s): two results share a list: %s", short(s), short(again))
		}
		reads(t, s)
	}
}

func TestArgumentsAreNeitherChangedNorKept(t *testing.T) {
	for _, s := range samples {
		b := []byte(s)
		got, err := tree.Parse(over(b))
		if string(b) != s {
			t.Errorf("the argument %q has changed to %q", s, b)
		}
		want, wantErr := parseOf(s)
		for i := range b {
			b[i] = '#'
		}
		if !sameOf(got, want) || err != wantErr {
			t.Errorf("Parse(%s): the result has changed since: %s, %d", short(s), short(got), err)
		}
	}
	for _, n := range []api.Node{path("abc"), number(1500000), quoted("abc"), truth(1), call("abc"), call("abc", path("abc"), call("abc", quoted("abc"))), {}, path("1"), quoted(`"'`), chain(deepest + 1)} {
		b := []byte(n.Text)
		room := append(make([]api.Node, 0, len(n.Kids)+3), n.Kids...)
		x := n
		x.Text, x.Kids = over(b), room
		want := tidy(n)
		got := tree.Print(x)
		tree.Is(x)
		tree.Depth(x)
		tree.Same(x, call("f", x, x))
		tree.Same(x, x)
		behind := room[len(room):cap(room)]
		if !sameOf(x, want) || !sameOf(call("f", behind...), call("f", make([]api.Node, 3)...)) {
			t.Errorf("the argument %s has changed to %s, %s", short(want), short(x), short(behind))
		}
		for i := range b {
			b[i] = '#'
		}
		if got != printOf(n) {
			t.Errorf("Print(%s): the result has changed since: %s", short(n), short(got))
		}
	}
}

func TestResultsDependOnTheirArgumentsAlone(t *testing.T) {
	ask := func() {
		for _, s := range samples {
			reads(t, s)
			n, _ := parseOf(s)
			holds(t, n)
		}
	}
	for _, ahead := range []string{strings.Repeat("f(", deepest), strings.Repeat("f(", deepest+1), "f(f(f(", "f(a,", within(deepest, "a"), "'", "{", strings.Repeat("a", most+1), "f(a))", "1("} {
		reads(t, ahead)
		ask()
	}
	var w sync.WaitGroup
	for range 8 {
		w.Go(func() {
			for range 30 {
				ask()
			}
		})
	}
	w.Wait()
}
