package lex_test

import (
	"slices"
	"strings"
	"sync"
	"testing"

	"graticule/api"
	"graticule/lex"
)

func TestGivenLimits(t *testing.T) {
	if api.MaxText != most {
		t.Error("the limit is another:", api.MaxText)
	}
}

func TestKinds(t *testing.T) {
	if lex.Word != 1 || lex.String != 2 || lex.Open != 3 || lex.Close != 4 || lex.Comma != 5 {
		t.Error("the kinds are others:", lex.Word, lex.String, lex.Open, lex.Close, lex.Comma)
	}
}

// P14.1: tokens

func TestLex(t *testing.T) {
	o, c, k := open(), closed(), comma()
	for _, x := range []struct {
		s    string
		want []lex.Token
	}{
		{"f(a.{b,c}, 'x')", []lex.Token{word("f"), o, word("a.{b,c}"), k, quoted("x"), c}},
		// no byte, and none but blanks
		{"", nil}, {" ", nil}, {"\t", nil}, {"  \t \t\t ", nil},
		// blanks
		{"a", []lex.Token{word("a")}}, {" a", []lex.Token{word("a")}}, {"a ", []lex.Token{word("a")}}, {"\ta\t", []lex.Token{word("a")}}, {" \t a \t ", []lex.Token{word("a")}}, {"a b", []lex.Token{word("a"), word("b")}}, {"a\tb", []lex.Token{word("a"), word("b")}}, {"a \t  b", []lex.Token{word("a"), word("b")}}, {" f ( a , b ) ", []lex.Token{word("f"), o, word("a"), k, word("b"), c}}, {"f\t(\ta\t)", []lex.Token{word("f"), o, word("a"), c}}, {" ( ", []lex.Token{o}}, {"( )", []lex.Token{o, c}}, {" 'x' ", []lex.Token{quoted("x")}}, {"'x' 'y'", []lex.Token{quoted("x"), quoted("y")}},
		// signs
		{"(", []lex.Token{o}}, {")", []lex.Token{c}}, {",", []lex.Token{k}}, {"()", []lex.Token{o, c}}, {")(", []lex.Token{c, o}}, {"(((", []lex.Token{o, o, o}}, {"))", []lex.Token{c, c}}, {",,,", []lex.Token{k, k, k}}, {"(,)", []lex.Token{o, k, c}}, {",)(,", []lex.Token{k, c, o, k}},
		// strings
		{`""`, []lex.Token{quoted("")}}, {`''`, []lex.Token{quoted("")}}, {`"a"`, []lex.Token{quoted("a")}}, {`'a'`, []lex.Token{quoted("a")}}, {`" a b "`, []lex.Token{quoted(" a b ")}}, {"'\ta\t'", []lex.Token{quoted("\ta\t")}}, {`"it's"`, []lex.Token{quoted("it's")}}, {`'"'`, []lex.Token{quoted(`"`)}}, {`"'"`, []lex.Token{quoted(`'`)}}, {`'say "a"'`, []lex.Token{quoted(`say "a"`)}}, {`"(,)"`, []lex.Token{quoted("(,)")}}, {`"{"`, []lex.Token{quoted("{")}}, {`'}'`, []lex.Token{quoted("}")}}, {"'a\nb'", []lex.Token{quoted("a\nb")}}, {"\"\x00\"", []lex.Token{quoted("\x00")}}, {"'\x80\xff'", []lex.Token{quoted("\x80\xff")}}, {`"ä"`, []lex.Token{quoted("ä")}}, {`'\'`, []lex.Token{quoted(`\`)}}, {`"\"""`, []lex.Token{quoted(`\`), quoted("")}},
		// strings side by side, and at the end
		{`"a""b"`, []lex.Token{quoted("a"), quoted("b")}}, {`'a''b'`, []lex.Token{quoted("a"), quoted("b")}}, {`"a"'b'`, []lex.Token{quoted("a"), quoted("b")}}, {`""''""`, []lex.Token{quoted(""), quoted(""), quoted("")}}, {`a "b"`, []lex.Token{word("a"), quoted("b")}}, {`(''`, []lex.Token{o, quoted("")}},
		// words beside signs and strings
		{"f(", []lex.Token{word("f"), o}}, {"(f", []lex.Token{o, word("f")}}, {")f)", []lex.Token{c, word("f"), c}}, {"a,b", []lex.Token{word("a"), k, word("b")}}, {",a,", []lex.Token{k, word("a"), k}}, {`a"b"c`, []lex.Token{word("a"), quoted("b"), word("c")}}, {`a'b'c`, []lex.Token{word("a"), quoted("b"), word("c")}}, {`"a"b"c"`, []lex.Token{quoted("a"), word("b"), quoted("c")}}, {"'')", []lex.Token{quoted(""), c}}, {"f('a','b')", []lex.Token{word("f"), o, quoted("a"), k, quoted("b"), c}}, {"f(g(a),-1.5)", []lex.Token{word("f"), o, word("g"), o, word("a"), c, k, word("-1.5"), c}},
		// words
		{"a.b-c_d:e#f%g@h=i.*?[0-9]+", []lex.Token{word("a.b-c_d:e#f%g@h=i.*?[0-9]+")}}, {"1.50", []lex.Token{word("1.50")}}, {"+1", []lex.Token{word("+1")}}, {"true", []lex.Token{word("true")}}, {".", []lex.Token{word(".")}}, {"...", []lex.Token{word("...")}}, {"[", []lex.Token{word("[")}}, {"]a[", []lex.Token{word("]a[")}}, {"[a,b]", []lex.Token{word("[a"), k, word("b]")}}, {"[a b]", []lex.Token{word("[a"), word("b]")}},
		// braces
		{"a{b,c}d", []lex.Token{word("a{b,c}d")}}, {"{a,b}", []lex.Token{word("{a,b}")}}, {"{}", []lex.Token{word("{}")}}, {"{,}", []lex.Token{word("{,}")}}, {"{,,}", []lex.Token{word("{,,}")}}, {"a{}", []lex.Token{word("a{}")}}, {"{}a", []lex.Token{word("{}a")}}, {"{}{}", []lex.Token{word("{}{}")}}, {"{a}{b,}c{,}", []lex.Token{word("{a}{b,}c{,}")}}, {"{} {}", []lex.Token{word("{}"), word("{}")}}, {"{{}}", []lex.Token{word("{{}}")}}, {"{a,{b,c},d}", []lex.Token{word("{a,{b,c},d}")}}, {"{{,},}", []lex.Token{word("{{,},}")}}, {"{{a},b}", []lex.Token{word("{{a},b}")}}, {"{[,]}", []lex.Token{word("{[,]}")}},
		// a comma behind braces that are closed again, and ahead of braces
		{"{a},b", []lex.Token{word("{a}"), k, word("b")}}, {"a{b,c},d", []lex.Token{word("a{b,c}"), k, word("d")}}, {"{{a,b}},{c,d}", []lex.Token{word("{{a,b}}"), k, word("{c,d}")}}, {"{},", []lex.Token{word("{}"), k}}, {",{}", []lex.Token{k, word("{}")}}, {"a,{b}", []lex.Token{word("a"), k, word("{b}")}}, {"{,},{,}", []lex.Token{word("{,}"), k, word("{,}")}}, {"{a}b,c", []lex.Token{word("{a}b"), k, word("c")}}, {"f({a,b},c)", []lex.Token{word("f"), o, word("{a,b}"), k, word("c"), c}}, {"{a}(", []lex.Token{word("{a}"), o}}, {"{a}'b'", []lex.Token{word("{a}"), quoted("b")}}, {"'{'{}'}'", []lex.Token{quoted("{"), word("{}"), quoted("}")}},
	} {
		lexIs(t, x.s, x.want...)
	}
}

func TestEachByte(t *testing.T) {
	o, c, k := open(), closed(), comma()
	words := 0
	for i := range 256 {
		s := string([]byte{byte(i)})
		// by itself, twice, between words, between signs, within braces, within strings
		for _, mark := range []string{`"`, "'"} {
			if s != mark {
				lexIs(t, mark+s+mark, quoted(s))
				lexIs(t, "a "+mark+s+s+"b"+s+mark+" c", word("a"), quoted(s+s+"b"+s), word("c"))
			}
		}
		switch {
		case strings.Contains(may, s) && s != "{" && s != "}":
			words++
			lexIs(t, s, word(s))
			lexIs(t, s+s, word(s+s))
			lexIs(t, "a"+s+"b", word("a"+s+"b"))
			lexIs(t, "("+s+","+s+")", o, word(s), k, word(s), c)
			lexIs(t, "{"+s+","+s+"}"+s, word("{"+s+","+s+"}"+s))
			lexIs(t, "''"+s+`""`, quoted(""), word(s), quoted(""))
		case s == " " || s == "\t":
			lexIs(t, s)
			lexIs(t, s+s)
			lexIs(t, "a"+s+"b", word("a"), word("b"))
			lexIs(t, "("+s+","+s+")", o, k, c)
			lexFails(t, "{"+s+","+s+"}"+s, api.ErrSyntax)
			lexIs(t, "''"+s+`""`, quoted(""), quoted(""))
		case s == ",":
			lexIs(t, "a"+s+"b", word("a"), k, word("b"))
			lexIs(t, "{"+s+"}", word("{,}"))
		case s == "(" || s == ")":
			sign := o
			if s == ")" {
				sign = c
			}
			lexIs(t, s+s, sign, sign)
			lexIs(t, "a"+s+"b", word("a"), sign, word("b"))
			lexFails(t, "{"+s+"}", api.ErrSyntax)
		default:
			for _, x := range []string{s, "a" + s, s + "a", "a" + s + "b", " " + s + " ", "(" + s + ")", "{" + s + "}", "{a," + s + "}", "''" + s, s + `""`, "a" + s + s + s + "b"} {
				if s == `"` || s == "'" {
					holds(t, x)
					continue
				}
				lexFails(t, x, api.ErrSyntax)
			}
		}
	}
	if words != 26+26+10+13 {
		t.Error("so many bytes are words by themselves:", words)
	}
}

// P14.1: errors

func TestSyntaxErrorsOfLex(t *testing.T) {
	for _, s := range []string{
		// bytes that belong to no token
		"\n", "\r", "\r\n", "\v", "\f", "\x00", "a\n", "\na", "a\nb", "f(a,\n b)", "a\r\n", "f(a);", ";", "/", "a/b", "!", "$", "a&b", `\`, `a\b`, "<", ">", "^", "`a`", "~", "|", "\x7f", "\x80", "\xff", "ä", "a\xc3\xa4", "\u00a0", "a\u00a0b", "\u3000", "（", "，", "“a”", "é(a)", "a{ä}", "f(a)\x00", "''\n''", "' ' ' ' $",
		// strings that are not closed
		`"`, `'`, `"a`, `'a`, `a"`, `a'`, `"a'`, `'a"`, `"""`, `'''`, `"a""`, `"a"'`, `f("a)`, `f('a", b)`, `it's`, `"\"`[:2], `"a\`, "(\"", "' ", "\"a\n", `'it's'`,
		// braces that are closed, but not opened
		"}", "a}", "}a", "}}", "{}}", "a{b}}", "{a}}b", "}{", "}a{", "a}b{c}", "{a},b}", "{a} }", "{a}, }", "{} a}", "f(a})", "f(})", "a},b", "},", "{a}'b'}", "''}", "}''", `"{"}`, "{{}}}",
		// braces that are opened, but not closed
		"{", "a{", "{a", "a{b", "{{", "{{}", "{{a}", "{a,", "{,", "{a,b", "a{b,c", "{}{", "{a}{", "{a}b{c", "a.{b,{c,d}", "{ }", "{ a}", "{a }", "{a ,b}", "a{ b}", "{a, b}", "{a,\tb}", "{\t}", "{(}", "{a(b)}", "{)}", "f({)", "f(a{)", "f({,a)", "{(", "{)", `{"}"`, `{'a'}`, `{"a"}`, `a{'`, `{''}`, "{a'}'", "{\n}", "{a\xff}", "{$}",
	} {
		lexFails(t, s, api.ErrSyntax)
	}
}

// What has been read of a text that is wrong later is not told.
func TestErrorsBehindTokens(t *testing.T) {
	right := "f(a.{b,c}, 'x', 1.5) "
	for _, wrong := range []string{"\n", "$", "'", `"`, "{", "}", "a{b c}", "\xff"} {
		lexFails(t, right+wrong, api.ErrSyntax)
		lexFails(t, strings.Repeat(right, 100)+wrong, api.ErrSyntax)
		lexFails(t, strings.Repeat(" ", most-len(wrong))+wrong, api.ErrSyntax)
		lexFails(t, strings.Repeat("(", most-len(wrong))+wrong, api.ErrSyntax)
		lexFails(t, strings.Repeat("a", most-len(wrong)-1)+","+wrong, api.ErrSyntax)
	}
}

// times is n tokens that are all the same.
func times(n int, one lex.Token) []lex.Token { return slices.Repeat([]lex.Token{one}, n) }

func TestLongTexts(t *testing.T) {
	row := strings.Repeat
	for n := most - 3; n <= most+3; n++ {
		for _, x := range []struct {
			s    string
			want []lex.Token
		}{
			{row("a", n), []lex.Token{word(row("a", n))}},
			{row(" ", n), nil}, {row("\t", n), nil}, {row(" ", n-1) + "a", []lex.Token{word("a")}}, {"a" + row("\t", n-1), []lex.Token{word("a")}},
			{row("(", n), times(n, open())}, {row(")", n), times(n, closed())}, {row(",", n), times(n, comma())},
			{"'" + row("x", n-2) + "'", []lex.Token{quoted(row("x", n-2))}}, {`"` + row("\xff", n-2) + `"`, []lex.Token{quoted(row("\xff", n-2))}}, {row("''", n/2) + row(" ", n%2), times(n/2, quoted(""))},
			{"{" + row(",", n-2) + "}", []lex.Token{word("{" + row(",", n-2) + "}")}}, {row("{", n/2) + row("}", n/2) + row(" ", n%2), []lex.Token{word(row("{", n/2) + row("}", n/2))}}, {row("{}", n/2) + row(" ", n%2), []lex.Token{word(row("{}", n/2))}},
			{row("a ", n/2) + row(" ", n%2), times(n/2, word("a"))},
			{"f(" + row("a", n-3) + ")", []lex.Token{word("f"), open(), word(row("a", n-3)), closed()}},
		} {
			if len(x.s) != n {
				t.Fatalf("%s has %d bytes, not %d", short(x.s), len(x.s), n)
			}
			if n > most {
				lexFails(t, x.s, api.ErrLimit)
				continue
			}
			lexIs(t, x.s, x.want...)
		}
		// also where it is wrong in other ways
		for _, s := range []string{row("\n", n), row("{", n), row("}", n), row("a", n-1) + "}", "{" + row("a", n-1), row("''", n/2-1) + row(" ", n%2+1) + "'", row("\xff", n), `"` + row("a", n-1), row(" ", n-1) + "'", "$" + row(" ", n-1)} {
			if len(s) != n {
				t.Fatalf("%s has %d bytes, not %d", short(s), len(s), n)
			}
			if n > most {
				lexFails(t, s, api.ErrLimit)
				continue
			}
			lexFails(t, s, api.ErrSyntax)
		}
	}
	// A length that a smaller integer would take round to a short one, and one that is shorter in letters.
	for _, n := range []int{1 << 16, 1<<16 + 1, 1 << 20} {
		for _, s := range []string{"a", " ", "(", "'", "{", "}", "\n", "a,"} {
			lexFails(t, row(s, n), api.ErrLimit)
		}
	}
	lexFails(t, "'"+row("ä", most/2)+"'", api.ErrLimit)
	lexIs(t, "'"+row("ä", most/2-1)+"'", quoted(row("ä", most/2-1)))
}

func TestDeepBraces(t *testing.T) {
	row := strings.Repeat
	for _, n := range []int{1, 2, 64, 65, 127, 128, 255, 256, 257, 1000, 2040} {
		s := row("{", n) + "a,b" + row("}", n)
		lexIs(t, s, word(s))
		lexIs(t, s+","+"c", word(s), comma(), word("c"))
		lexFails(t, s+"}", api.ErrSyntax)
		lexFails(t, "{"+s, api.ErrSyntax)
		lexFails(t, s[1:], api.ErrSyntax)
		lexFails(t, s[:len(s)-1], api.ErrSyntax)
		lexFails(t, s[:len(s)-1]+" }", api.ErrSyntax)
		pathIs(t, s, true)
		pathIs(t, s[1:], false)
		pathIs(t, s[:len(s)-1], false)
		s = row("{,", n) + row(",}", n)
		if len(s) <= most {
			lexIs(t, s, word(s))
		}
	}
}

// P14.1 and P14.2, against the model

func TestShortTexts(t *testing.T) {
	for _, x := range []struct {
		letters string
		most    int
	}{
		{"a{},", 8}, {"a{}, (\"", 6}, {"'\"a ", 8}, {"'{},)", 7}, {"a\t,}{+", 6}, {"Zz_09+", 5}, {"a1_-$\n", 5}, {"{[*.,?]}", 5},
	} {
		for _, s := range textsOf(x.letters, x.most) {
			holds(t, s)
		}
	}
}

func TestScatteredTexts(t *testing.T) {
	d := dice{1}
	right, paths := 0, 0
	for range 100000 {
		s := d.text(12, "a", "b.c", "1", "{", "}", "{", "}", "{d,e}", ",", ",", "(", ")", " ", "\t", `"`, `"x"`, "'y'", "+", "*", "\xff")
		if d.upTo(4) > 0 {
			s = strings.NewReplacer(`"`, "", "\xff", "", "'", "", "{", "", "}", "").Replace(s)
		}
		holds(t, s)
		if l, err := lexOf(s); err == api.OK && len(l) > 1 {
			right++
		}
		if pathOf(s) {
			paths++
		}
	}
	if right < 30000 || paths < 3000 {
		t.Error("no more than these are right, and paths:", right, paths)
	}
	for range 100000 {
		holds(t, d.bytes(4, ""))
		holds(t, d.text(3, may[d.upTo(len(may)):], d.bytes(1, "")))
	}
	for range 200 {
		holds(t, d.text(2000, "a", "{b,", "}", ",", "(", ")", " ", "'x'"))
		holds(t, d.text(2000, "a", "{b,c{,}}", ",", "(", ")", " ", "'x'"))
	}
}

// scattered are tokens, and a text of them: blanks are between words, and wherever else they may be.
func scattered(d *dice) ([]lex.Token, string) {
	var all []lex.Token
	s := ""
	for range d.upTo(12) {
		s += d.text(2, " ", "\t")
		i := d.upTo(7)
		if i >= 4 && len(all) > 0 && all[len(all)-1].Kind == lex.Word {
			s += d.of(" ", "\t")
		}
		switch i {
		case 0:
			all, s = append(all, open()), s+"("
		case 1:
			all, s = append(all, closed()), s+")"
		case 2:
			all, s = append(all, comma()), s+","
		case 3:
			mark := d.of(`"`, "'")
			x := d.bytes(8, mark)
			all, s = append(all, quoted(x)), s+mark+x+mark
		default:
			x := d.word(3)
			all, s = append(all, word(x)), s+x
		}
	}
	return all, s + d.text(2, " ", "\t")
}

// Tokens that are written down come out again.
func TestTokensThatAreWrittenDown(t *testing.T) {
	d := dice{3}
	for range 50000 {
		want, s := scattered(&d)
		if len(s) > most {
			lexFails(t, s, api.ErrLimit)
			continue
		}
		lexIs(t, s, want...)
		holds(t, s)
		for _, x := range want {
			pathIs(t, x.Text, x.Kind == lex.Word && !strings.Contains(x.Text, "+") || x.Kind == lex.String && pathOf(x.Text))
		}
	}
}

// P14.2: Path

func TestPath(t *testing.T) {
	for _, s := range []string{
		"a", "Z", "0", "_", "ab", "a.b.c", "servers.web-01.cpu_load", "*", "?", "a.*.b?", "[a-z]", "[", "]", "a[0-9]*", ".", "..", "a..b", "-", "-1", "1.5", "true", "false", "a:b#c%d@e=f", "{}", "a{}", "{a}", "a{b,c}d", "{,}", "{a,b}.{c,d}", "{a,{b,c}}", "{{},}", "[{a,b}]", "a.{b,c}*",
	} {
		pathIs(t, s, true)
	}
	for _, s := range []string{
		// no word
		"", " ", "\t", "\n", "(", ")", ",", "''", `""`, "'a'", `"a"`, `"`, "$", "\x00", "\xff", "ä",
		// a word, but not alone
		" a", "a ", "\ta", "a\t", " a ", "a b", "a\tb", "a,b", "a,", ",a", "a(", "a()", "(a)", "a)", "f(a)", "a'b'", "'a'b", `a""`, "{a},b", "{a},{b}", "{a,b},", "[a,b]", "a\n", "\na", "a$", "a\x00", "aä", "ä.b", "a\xff", "a/b",
		// a plus
		"+", "a+", "+a", "a+b", "+1", "1.5+", "{+}", "{a,b+}", "a{b}+", "a.+", "++", "+ ", "'+'",
		// braces without match
		"{", "}", "a{", "a}", "{a", "}a", "}{", "a}b{", "{{}", "{}}", "{a,b", "a,b}", "{a}}", "{,", ",}", "{a }", "{ a}", "{a, b}", "{(}", "{'a'}", "{+", "+}",
	} {
		pathIs(t, s, false)
	}
	for i := range 256 {
		s := string([]byte{byte(i)})
		ok := strings.Contains(may, s) && strings.Trim(s, "{}+") != ""
		for _, x := range []string{s, "a" + s, s + "a", "a" + s + "b", s + s, "{" + s + "}", "{a,b}" + s, strings.Repeat("a", most-1) + s, s + strings.Repeat("a", most-1)} {
			if s == "," || s == "{" || s == "}" {
				pathIs(t, x, pathOf(x))
				continue
			}
			pathIs(t, x, ok)
		}
	}
}

func TestLongPaths(t *testing.T) {
	row := strings.Repeat
	for n := most - 3; n <= most+3; n++ {
		for _, s := range []string{row("a", n), row(".", n), row("a", n-1) + "*", "{" + row(",", n-2) + "}", row("{", n/2) + row("}", n/2) + row("a", n%2), "{" + row("a,", n/2-1) + row("b", n%2) + "}", row("{}", n/2) + row("a", n%2)} {
			if len(s) != n {
				t.Fatalf("%s has %d bytes, not %d", short(s), len(s), n)
			}
			pathIs(t, s, n <= most)
			pathIs(t, s[:len(s)-1]+"+", false)
			pathIs(t, "+"+s[1:], false)
		}
		pathIs(t, row("a", n-1)+" ", false)
		pathIs(t, " "+row("a", n-1), false)
		pathIs(t, row("a", n-1)+"}", false)
		pathIs(t, "{"+row("a", n-1), false)
	}
	for _, n := range []int{1 << 16, 1<<16 + 1, 1 << 20} {
		pathIs(t, row("a", n), false)
		pathIs(t, row("{}", n), false)
		pathIs(t, row("+", n), false)
		pathIs(t, row("{", n), false)
	}
}

// P14.2: Ident

func TestIdent(t *testing.T) {
	for _, s := range []string{
		"a", "z", "A", "Z", "ab", "aB", "a1", "a_", "a__", "A_0", "z9", "Z9_z", "sumSeries", "alias_by_node2", "true", "a" + letters + digits + "_",
	} {
		identIs(t, s, true)
	}
	for _, s := range []string{
		"", " ", "\x00", "(", "'a'",
		// another first byte
		"0", "9", "_", "-", ".", "0a", "9z", "_a", "__", "1_", "-a", ".a", "*", "{}", "[a", "@a", "`a", "{a", " a", "\ta", "\na", "ä", "äb", "\xffa", "+a",
		// another byte behind it
		"a ", "a\t", "a\n", "a\r\n", "a\x00", "a b", "a.b", "a-b", "a:", "a*", "a?", "a+", "a=b", "a@b", "a(", "a()", "a,", "a'", "a{b}", "a[", "a^", "a`", "a/", "aä", "a\xff", "a\x80b", "ab\u212a", "aſ", "a１",
	} {
		identIs(t, s, false)
	}
	first, other := 0, 0
	for i := range 256 {
		s := string([]byte{byte(i)})
		isFirst, isOther := strings.Contains(letters, s), strings.Contains(letters+digits+"_", s)
		if lex.Ident(s) {
			first++
		}
		if lex.Ident("a" + s) {
			other++
		}
		for _, x := range []string{s, s + "a", s + "Z_9", s + strings.Repeat("a", most)} {
			identIs(t, x, isFirst)
		}
		for _, x := range []string{"a" + s, "Z" + s, "a" + s + "b", "aa" + s + s, "a0_" + s, strings.Repeat("a", most) + s, strings.Repeat("a", most) + s + "a"} {
			identIs(t, x, isOther)
		}
	}
	if first != 52 || other != 63 {
		t.Error("so many bytes are first, and behind:", first, other)
	}
}

// Ident has no limit of its own.
func TestLongIdents(t *testing.T) {
	for _, n := range []int{64, 65, 200, 201, most - 1, most, most + 1, 1 << 16, 1 << 20, 1 << 24} {
		s := strings.Repeat("a", n)
		identIs(t, s, true)
		identIs(t, s+"_9", true)
		identIs(t, s+"-", false)
		identIs(t, "1"+s, false)
		identIs(t, "_"+s, false)
		identIs(t, s+"\xff", false)
	}
}

// W1: whatever a text is, it ends.
func TestItEnds(t *testing.T) {
	inGoodTime(t, func() {
		for _, s := range []string{"", "a", "{", "}", "{}", "{,", "'", `"`, "(", ")", ",", " ", "\t", "\n", "\xff", "a ", "'x'", "{a,b}"} {
			for _, n := range []int{1, 2, most / 6, most / 2, most, most + 1, 1 << 22} {
				long := strings.Repeat(s, n)
				if l, err := lex.Lex(long); err != api.OK && len(l) != 0 || len(long) > most && err != api.ErrLimit {
					t.Errorf("Lex(%s) is %s, %d", short(long), short(l), err)
				}
				lex.Path(long)
				lex.Ident(long)
			}
		}
	})
}

// P14.3

var samples = []string{
	"", "a", "f(a.{b,c}, 'x')", "'x' 'x' x", "a a a", "f(a,a,'a',\"a\")", `"it's" ""`, "(,)", " \t", "{a,b},{a,b}", "+", "a{", "'", "$", "abc",
}

func TestResultsShareNoMemory(t *testing.T) {
	var texts []string
	for range 2 {
		for _, s := range samples {
			l, _ := lex.Lex(s)
			for _, x := range l[:cap(l)] {
				texts = append(texts, x.Text)
			}
		}
	}
	for i, a := range texts {
		for _, b := range slices.Concat(texts[:i], samples) {
			if meet(a, b) {
				t.Errorf("the result %q and %q have a byte of memory in common", a, b)
			}
		}
	}
}

// What a caller writes into a result changes no other answer.
func TestResultsThatAreWrittenOver(t *testing.T) {
	for _, s := range samples {
		first, err := lex.Lex(s)
		again, _ := lex.Lex(s)
		want, wantErr := lexOf(s)
		for _, l := range [][]lex.Token{first, again} {
			if !slices.Equal(l, want) || err != wantErr {
				t.Errorf("Lex(%q) is %v, %d, not %v, %d", s, l, err, want, wantErr)
			}
			l = l[:cap(l)]
			for i := range l {
				l[i] = lex.Token{Kind: -1, Text: "written over"}
			}
		}
		holds(t, s)
	}
}

func TestArgumentsAreNeitherChangedNorKept(t *testing.T) {
	for _, s := range samples {
		b := []byte(s)
		got, err := lex.Lex(over(b))
		lex.Path(over(b))
		lex.Ident(over(b))
		if string(b) != s {
			t.Errorf("the argument %q has changed to %q", s, b)
		}
		want, wantErr := lexOf(s)
		for i := range b {
			b[i] = '#'
		}
		if !slices.Equal(got, want) || err != wantErr {
			t.Errorf("Lex(%q): the result has changed since: %v, %d", s, got, err)
		}
	}
}

func TestResultsDependOnTheirArgumentsAlone(t *testing.T) {
	ask := func() {
		for _, s := range samples {
			holds(t, s)
		}
	}
	for _, ahead := range []string{"{{{", "'", "f(f(f(", strings.Repeat("{", most), strings.Repeat("a", most), strings.Repeat("a", most+1), "{,,,,", "\n"} {
		holds(t, ahead)
		ask()
	}
	var w sync.WaitGroup
	for range 8 {
		w.Go(func() {
			for range 100 {
				ask()
			}
		})
	}
	w.Wait()
}
