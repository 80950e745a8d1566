package rex_test

import (
	"slices"
	"strings"
	"testing"

	"graticule/api"
	"graticule/rex"
)

func TestGivenLimits(t *testing.T) {
	if api.MaxText != longest || api.MaxRex != most || api.MaxDeep != deepest {
		t.Error("the limits are others:", api.MaxText, api.MaxRex, api.MaxDeep)
	}
	if got, want := []int{rex.Set, rex.Split, rex.Jump, rex.Save, rex.Begin, rex.End, rex.Match}, []int{1, 2, 3, 4, 5, 6, 7}; !slices.Equal(got, want) {
		t.Error("the numbers of what an instruction does are", got)
	}
}

func TestExample(t *testing.T) {
	is(t, "a+", 0, []rex.Inst{{Op: rex.Save}, {Op: rex.Set, Pairs: "aa"}, {Op: rex.Split, X: 1, Y: 3}, {Op: rex.Save, X: 1}, {Op: rex.Match}})
	inner(t, "a+", 0, "Set aa; Split 1 3")
}

// P11.1: programs

func TestAtoms(t *testing.T) {
	for _, x := range []struct {
		s      string
		groups int
		want   string
	}{
		{"", 0, ""}, {"a", 0, "Set aa"}, {"ab", 0, "Set aa; Set bb"}, {"aba", 0, "Set aa; Set bb; Set aa"}, {"^", 0, "Begin"}, {"$", 0, "End"}, {"^$", 0, "Begin; End"}, {"$^", 0, "End; Begin"}, {"^^a$$", 0, "Begin; Begin; Set aa; End; End"},
		{".", 0, `Set "\x00\t\v\xff"`}, {`\.`, 0, "Set .."}, {`\\`, 0, `Set \\`}, {`\d`, 0, "Set 09"}, {"[a-c]", 0, "Set ac"}, {"(a)", 1, "Save 2; Set aa; Save 3"}, {"(?:a)", 0, "Set aa"}, {"()", 1, "Save 2; Save 3"}, {"(?:)", 0, ""},
		{"a^b", 0, "Set aa; Begin; Set bb"}, {"a$b", 0, "Set aa; End; Set bb"}, {"(^)($)", 2, "Save 2; Begin; Save 3; Save 4; End; Save 5"},
		{"{}", 0, "Set {{; Set }}"}, {"a{2}", 0, "Set aa; Set {{; Set 22; Set }}"}, {"a{2,3}?", 0, "Set aa; Set {{; Set 22; Set ,,; Set 33; Split 7 8; Set }}"}, {"]a]", 0, "Set ]]; Set aa; Set ]]"}, {"a-c", 0, "Set aa; Set --; Set cc"}, {"a:c", 0, "Set aa; Set ::; Set cc"},
		{"ä", 0, `Set "\xc3\xc3"; Set "\xa4\xa4"`}, {"a b\n", 0, `Set aa; Set "  "; Set bb; Set "\n\n"`},
	} {
		inner(t, x.s, x.groups, x.want)
	}
}

func TestRepetitions(t *testing.T) {
	for _, x := range []struct {
		s      string
		groups int
		want   string
	}{
		{"a*", 0, "Split 2 4; Set aa; Jump 1"}, {"a+", 0, "Set aa; Split 1 3"}, {"a?", 0, "Split 2 3; Set aa"},
		{"a*?", 0, "Split 4 2; Set aa; Jump 1"}, {"a+?", 0, "Set aa; Split 3 1"}, {"a??", 0, "Split 3 2; Set aa"},
		{"^*", 0, "Split 2 4; Begin; Jump 1"}, {"^+", 0, "Begin; Split 1 3"}, {"^?", 0, "Split 2 3; Begin"},
		{"^*?", 0, "Split 4 2; Begin; Jump 1"}, {"^+?", 0, "Begin; Split 3 1"}, {"^??", 0, "Split 3 2; Begin"},
		{"$*", 0, "Split 2 4; End; Jump 1"}, {"$+", 0, "End; Split 1 3"}, {"$?", 0, "Split 2 3; End"},
		{"$*?", 0, "Split 4 2; End; Jump 1"}, {"$+?", 0, "End; Split 3 1"}, {"$??", 0, "Split 3 2; End"},
		{".*", 0, `Split 2 4; Set "\x00\t\v\xff"; Jump 1`}, {".+", 0, `Set "\x00\t\v\xff"; Split 1 3`}, {".?", 0, `Split 2 3; Set "\x00\t\v\xff"`},
		{".*?", 0, `Split 4 2; Set "\x00\t\v\xff"; Jump 1`}, {".+?", 0, `Set "\x00\t\v\xff"; Split 3 1`}, {".??", 0, `Split 3 2; Set "\x00\t\v\xff"`},
		{`\**`, 0, "Split 2 4; Set **; Jump 1"}, {`\*+`, 0, "Set **; Split 1 3"}, {`\*?`, 0, "Split 2 3; Set **"},
		{`\?*?`, 0, "Split 4 2; Set ??; Jump 1"}, {`\?+?`, 0, "Set ??; Split 3 1"}, {`\???`, 0, "Split 3 2; Set ??"},
		{`\d*`, 0, "Split 2 4; Set 09; Jump 1"}, {`\d+`, 0, "Set 09; Split 1 3"}, {`\d?`, 0, "Split 2 3; Set 09"},
		{`\d*?`, 0, "Split 4 2; Set 09; Jump 1"}, {`\d+?`, 0, "Set 09; Split 3 1"}, {`\d??`, 0, "Split 3 2; Set 09"},
		{"[ab]*", 0, "Split 2 4; Set ab; Jump 1"}, {"[ab]+", 0, "Set ab; Split 1 3"}, {"[ab]?", 0, "Split 2 3; Set ab"},
		{"[ab]*?", 0, "Split 4 2; Set ab; Jump 1"}, {"[ab]+?", 0, "Set ab; Split 3 1"}, {"[ab]??", 0, "Split 3 2; Set ab"},
		{"(a)*", 1, "Split 2 6; Save 2; Set aa; Save 3; Jump 1"}, {"(a)+", 1, "Save 2; Set aa; Save 3; Split 1 5"}, {"(a)?", 1, "Split 2 5; Save 2; Set aa; Save 3"},
		{"(a)*?", 1, "Split 6 2; Save 2; Set aa; Save 3; Jump 1"}, {"(a)+?", 1, "Save 2; Set aa; Save 3; Split 5 1"}, {"(a)??", 1, "Split 5 2; Save 2; Set aa; Save 3"},
		{"(?:ab)*", 0, "Split 2 5; Set aa; Set bb; Jump 1"}, {"(?:ab)+", 0, "Set aa; Set bb; Split 1 4"}, {"(?:ab)?", 0, "Split 2 4; Set aa; Set bb"},
		{"(?:ab)*?", 0, "Split 5 2; Set aa; Set bb; Jump 1"}, {"(?:ab)+?", 0, "Set aa; Set bb; Split 4 1"}, {"(?:ab)??", 0, "Split 4 2; Set aa; Set bb"},
		// of nothing
		{"()*", 1, "Split 2 5; Save 2; Save 3; Jump 1"}, {"()+", 1, "Save 2; Save 3; Split 1 4"}, {"()?", 1, "Split 2 4; Save 2; Save 3"},
		{"(?:)*", 0, "Split 2 3; Jump 1"}, {"(?:)+", 0, "Split 1 2"}, {"(?:)?", 0, "Split 2 2"}, {"(?:)*?", 0, "Split 3 2; Jump 1"}, {"(?:)+?", 0, "Split 2 1"}, {"(?:)??", 0, "Split 2 2"},
		// within one another, and one behind the other
		{"(?:a*)*", 0, "Split 2 6; Split 3 5; Set aa; Jump 2; Jump 1"}, {"(?:a+)+", 0, "Set aa; Split 1 3; Split 1 4"}, {"(?:a?)?", 0, "Split 2 4; Split 3 4; Set aa"}, {"(?:a+?)*", 0, "Split 2 5; Set aa; Split 4 2; Jump 1"}, {"(?:a??)+?", 0, "Split 3 2; Set aa; Split 4 1"},
		{"a*b", 0, "Split 2 4; Set aa; Jump 1; Set bb"}, {"ab*", 0, "Set aa; Split 3 5; Set bb; Jump 2"}, {"ab+", 0, "Set aa; Set bb; Split 2 4"}, {"ab?c", 0, "Set aa; Split 3 4; Set bb; Set cc"}, {"a*b+c??", 0, "Split 2 4; Set aa; Jump 1; Set bb; Split 4 6; Split 8 7; Set cc"},
		{"a*?b", 0, "Split 4 2; Set aa; Jump 1; Set bb"}, {"a+b", 0, "Set aa; Split 1 3; Set bb"}, {"a?b*?", 0, "Split 2 3; Set aa; Split 6 4; Set bb; Jump 3"},
	} {
		inner(t, x.s, x.groups, x.want)
	}
}

func TestBranches(t *testing.T) {
	for _, x := range []struct {
		s      string
		groups int
		want   string
	}{
		{"a|b", 0, "Split 2 4; Set aa; Jump 5; Set bb"}, {"a|b|c", 0, "Split 2 4; Set aa; Jump 8; Split 5 7; Set bb; Jump 8; Set cc"}, {"a|b|c|d", 0, "Split 2 4; Set aa; Jump 11; Split 5 7; Set bb; Jump 11; Split 8 10; Set cc; Jump 11; Set dd"},
		{"ab|c", 0, "Split 2 5; Set aa; Set bb; Jump 6; Set cc"}, {"a|bc", 0, "Split 2 4; Set aa; Jump 6; Set bb; Set cc"}, {"ab|cd|ef", 0, "Split 2 5; Set aa; Set bb; Jump 11; Split 6 9; Set cc; Set dd; Jump 11; Set ee; Set ff"},
		// empty ones
		{"|", 0, "Split 2 3; Jump 3"}, {"||", 0, "Split 2 3; Jump 5; Split 4 5; Jump 5"}, {"|a", 0, "Split 2 3; Jump 4; Set aa"}, {"a|", 0, "Split 2 4; Set aa; Jump 4"}, {"a||b", 0, "Split 2 4; Set aa; Jump 7; Split 5 6; Jump 7; Set bb"},
		{"|a|", 0, "Split 2 3; Jump 6; Split 4 6; Set aa; Jump 6"}, {"|||", 0, "Split 2 3; Jump 7; Split 4 5; Jump 7; Split 6 7; Jump 7"},
		{"(|)", 1, "Save 2; Split 3 4; Jump 4; Save 3"}, {"(a|)", 1, "Save 2; Split 3 5; Set aa; Jump 5; Save 3"}, {"(|a)", 1, "Save 2; Split 3 4; Jump 5; Set aa; Save 3"}, {"(?:|)", 0, "Split 2 3; Jump 3"}, {"()|", 1, "Split 2 5; Save 2; Save 3; Jump 5"}, {"|()", 1, "Split 2 3; Jump 5; Save 2; Save 3"},
		// a repetition binds the last piece alone, and a group all of its own
		{"ab|c*", 0, "Split 2 5; Set aa; Set bb; Jump 8; Split 6 8; Set cc; Jump 5"}, {"a*|b", 0, "Split 2 6; Split 3 5; Set aa; Jump 2; Jump 7; Set bb"}, {"(?:a|b)*", 0, "Split 2 7; Split 3 5; Set aa; Jump 6; Set bb; Jump 1"}, {"(?:a|b)+?", 0, "Split 2 4; Set aa; Jump 5; Set bb; Split 6 1"},
		{"^a|b$", 0, "Split 2 5; Begin; Set aa; Jump 7; Set bb; End"}, {"(a|ab)(c|bcd)", 2, "Save 2; Split 3 5; Set aa; Jump 7; Set aa; Set bb; Save 3; Save 4; Split 10 12; Set cc; Jump 15; Set bb; Set cc; Set dd; Save 5"},
		{"a(b|c)d|e", 1, "Split 2 11; Set aa; Save 2; Split 5 7; Set bb; Jump 8; Set cc; Save 3; Set dd; Jump 12; Set ee"}, {"(a|b)|c", 1, "Split 2 9; Save 2; Split 4 6; Set aa; Jump 7; Set bb; Save 3; Jump 10; Set cc"}, {"a|(b|c)", 1, "Split 2 4; Set aa; Jump 10; Save 2; Split 6 8; Set bb; Jump 9; Set cc; Save 3"},
		// a|b|c is a|(b|c)
		{"a|(?:b|c)", 0, "Split 2 4; Set aa; Jump 8; Split 5 7; Set bb; Jump 8; Set cc"}, {"(?:a|b)|c", 0, "Split 2 7; Split 3 5; Set aa; Jump 6; Set bb; Jump 8; Set cc"},
	} {
		inner(t, x.s, x.groups, x.want)
	}
}

func TestGroups(t *testing.T) {
	for _, x := range []struct {
		s      string
		groups int
		want   string
	}{
		{"(a)(b)", 2, "Save 2; Set aa; Save 3; Save 4; Set bb; Save 5"}, {"((a)b)", 2, "Save 2; Save 4; Set aa; Save 5; Set bb; Save 3"}, {"((a)(b))(c)", 4, "Save 2; Save 4; Set aa; Save 5; Save 6; Set bb; Save 7; Save 3; Save 8; Set cc; Save 9"},
		{"(a(b)c(d)e)", 3, "Save 2; Set aa; Save 4; Set bb; Save 5; Set cc; Save 6; Set dd; Save 7; Set ee; Save 3"}, {"(((a)))", 3, "Save 2; Save 4; Save 6; Set aa; Save 7; Save 5; Save 3"},
		{"(?:a)(b)", 1, "Set aa; Save 2; Set bb; Save 3"}, {"(?:(a))", 1, "Save 2; Set aa; Save 3"}, {"((?:a))", 1, "Save 2; Set aa; Save 3"}, {"(?:(?:a)(?:b))", 0, "Set aa; Set bb"}, {"(a)(?:b)(c)", 2, "Save 2; Set aa; Save 3; Set bb; Save 4; Set cc; Save 5"}, {"(?:(?:)|(a))", 1, "Split 2 3; Jump 6; Save 2; Set aa; Save 3"},
		{"(a)|(b)", 2, "Split 2 6; Save 2; Set aa; Save 3; Jump 9; Save 4; Set bb; Save 5"}, {"(a|(b))*(c)", 3, "Split 2 11; Save 2; Split 4 6; Set aa; Jump 9; Save 4; Set bb; Save 5; Save 3; Jump 1; Save 6; Set cc; Save 7"},
		{"()()", 2, "Save 2; Save 3; Save 4; Save 5"}, {"(:a)", 1, "Save 2; Set ::; Set aa; Save 3"}, {"(?::)", 0, "Set ::"}, {"(?:a?)", 0, "Split 2 3; Set aa"}, {`\((a)\)`, 1, "Set ((; Save 2; Set aa; Save 3; Set ))"}, {"([(])", 1, "Save 2; Set ((; Save 3"}, {"[)](a)", 1, "Set )); Save 2; Set aa; Save 3"}, {"([)])", 1, "Save 2; Set )); Save 3"},
	} {
		inner(t, x.s, x.groups, x.want)
	}
	// Numbers of two digits and more are counted on.
	n := 100
	p, err := rex.Compile(strings.Repeat("()", n))
	if err != api.OK || p.Groups != n || len(p.L) != 2*n+3 {
		t.Fatal("a hundred groups are", p.Groups, len(p.L), err)
	}
	for i, x := range p.L[1 : 2*n+1] {
		if x != (rex.Inst{Op: rex.Save, X: i + 2}) {
			t.Error("instruction", i+1, "of a hundred groups is", show([]rex.Inst{x}))
		}
	}
}

// P11.1: sets

func TestSetsOfOneByte(t *testing.T) {
	for c := range 256 {
		s, pair := bytesOf(c), bytesOf(c, c)
		switch {
		case c == '.':
			setIs(t, s, "\x00\x09\x0b\xff")
		case c == '^' || c == '$' || c == '|':
		case strings.Contains(`\?*+()[`, s):
			setFails(t, s)
		default:
			setIs(t, s, pair)
		}
		stroked := `\` + s
		switch {
		case strings.Contains("dwsDWS", s):
		case '0' <= c && c <= '9', 'a' <= c && c <= 'z', 'A' <= c && c <= 'Z':
			setFails(t, stroked)
			setFails(t, "["+stroked+"]")
			setFails(t, "[^"+stroked+"]")
			setFails(t, "[a"+stroked+"]")
			setFails(t, "[ -"+stroked+"]")
			setFails(t, "["+stroked+"-~]")
		default:
			setIs(t, stroked, pair)
			setIs(t, "["+stroked+"]", pair)
		}
	}
	setIs(t, "]", "]]")
	setIs(t, "{", "{{")
	setIs(t, "}", "}}")
	setIs(t, `\]`, "]]")
	setIs(t, "\x80", "\x80\x80")
	setIs(t, "\x00", "\x00\x00")
	setIs(t, "\n", "\n\n")
	setIs(t, `\`+"\n", "\n\n")
	setIs(t, `\_`, "__")
	setIs(t, `\`+"\xff", "\xff\xff")
}

func TestByteClasses(t *testing.T) {
	for _, x := range []struct{ s, pairs string }{
		{`\d`, "09"}, {`\w`, "09AZ__az"}, {`\s`, "\t\r  "},
		{`\D`, "\x00/:\xff"}, {`\W`, "\x00/:@[^``{\xff"}, {`\S`, "\x00\x08\x0e\x1f!\xff"},
	} {
		setIs(t, x.s, x.pairs)
		setIs(t, "["+x.s+"]", x.pairs)
		// The class of the other case is all other bytes.
		letter := x.s[1] ^ 0x20
		setIs(t, "[^"+bytesOf('\\', int(letter))+"]", x.pairs)
		p, _ := rex.Compile(bytesOf('\\', int(letter)))
		for c := range 256 {
			hasIs(t, x.pairs, byte(c), len(p.L) > 1 && !rex.Has(p.L[1].Pairs, byte(c)))
		}
	}
	inner(t, `\d\D`, 0, `Set 09; Set "\x00/:\xff"`)
	inner(t, `\\d`, 0, `Set \\; Set dd`)
	inner(t, `d\d`, 0, `Set dd; Set 09`)
}

func TestBrackets(t *testing.T) {
	for _, x := range []struct{ s, pairs string }{
		// one item, and some
		{"[a]", "aa"}, {"[ab]", "ab"}, {"[ba]", "ab"}, {"[ac]", "aacc"}, {"[ca]", "aacc"}, {"[aa]", "aa"}, {"[bdf]", "bbddff"}, {"[.]", ".."}, {"[*+?]", "*+??"}, {"[(|)]", "()||"}, {"[$]", "$$"}, {"[{}]", "{{}}"}, {"[[]", "[["}, {"[[a]", "[[aa"}, {"[a[]", "[[aa"}, {"[[-]", "--[["}, {"[:d:]", "::dd"}, {"[\x00]", "\x00\x00"}, {"[\n]", "\n\n"}, {"[ä]", "\xa4\xa4\xc3\xc3"}, {"[,]", ",,"},
		// strokes
		{`[\]]`, "]]"}, {`[\\]`, `\\`}, {`[\-]`, "--"}, {`[\^]`, "^^"}, {`[\[]`, "[["}, {`[\.]`, ".."}, {`[\\d]`, `\\dd`}, {`[a\]b]`, "]]ab"}, {`[\]a]`, "]]aa"}, {`[\` + "\xff]", "\xff\xff"}, {`[\` + "\x00]", "\x00\x00"},
		// ranges of one byte and of many
		{"[a-a]", "aa"}, {"[a-b]", "ab"}, {"[a-z]", "az"}, {"[a-zA-Z]", "AZaz"}, {"[0-9a-f]", "09af"}, {"[\x00-\xff]", "\x00\xff"}, {"[\x00-\x00]", "\x00\x00"}, {"[\xff-\xff]", "\xff\xff"}, {"[\xfe-\xff]", "\xfe\xff"}, {"[\x7f-\x80]", "\x7f\x80"}, {"[ -~]", " ~"}, {"[!-/]", "!/"}, {"[[-^]", "[^"}, {"[[-`]", "[`"}, {"[.-:]", ".:"}, {"[*-,]", "*,"},
		{`[\--/]`, "-/"}, {`[+-\-]`, "+-"}, {`[\[-\]]`, "[]"}, {`[[-\]]`, "[]"}, {`[\\-\]]`, `\]`}, {`[\ -\~]`, " ~"}, {`[!-\/]`, "!/"}, {`[\!-/]`, "!/"}, {`[\--\-]`, "--"}, {`[\]-a]`, "]a"}, {`[ -\\]`, ` \`},
		// behind a range
		{"[a-c-e]", "--acee"}, {"[a-cd]", "ad"}, {"[a-c-]", "--ac"}, {"[a-c-d-f]", "--af"}, {"[a-b-c-d]", "--ad"}, {"[+-,--/]", "+/"}, {"[a-c--0]", "-0ac"}, {"[a-cx-z]", "acxz"},
		// ] in front
		{"[]]", "]]"}, {"[]a]", "]]aa"}, {"[]-a]", "]a"}, {"[]-]", "--]]"}, {`[]\]]`, "]]"}, {"[]^]", "]^"}, {"[][]", "[[]]"}, {"[]\\d]", "09]]"},
		// - in front, at the end, between
		{"[-]", "--"}, {"[--]", "--"}, {"[---]", "--"}, {"[-a]", "--aa"}, {"[a-]", "--aa"}, {"[-a-]", "--aa"}, {"[-a-c]", "--ac"}, {"[--/]", "-/"}, {"[---/]", "--//"}, {"[+--]", "++--"}, {"[----]", "--"}, {"[-+]", "++--"}, {"[+-]", "++--"}, {"[,-]", ",-"}, {"[-.]", "-."}, {"[+-,]", "+,"}, {"[!--]", "!!--"},
		// ^ in front and elsewhere
		{"[^a]", "\x00`b\xff"}, {"[a^]", "^^aa"}, {"[^^]", "\x00]_\xff"}, {"[^]]", "\x00\\^\xff"}, {"[^]a]", "\x00\\^`b\xff"}, {"[^-]", "\x00,.\xff"}, {"[^-a]", "\x00,.`b\xff"}, {"[^a-]", "\x00,.`b\xff"}, {"[^--/]", "\x00,0\xff"}, {"[^]-a]", "\x00\\b\xff"}, {"[^a-z]", "\x00`{\xff"}, {"[^\x00]", "\x01\xff"}, {"[^\xff]", "\x00\xfe"}, {"[^\x00\xff]", "\x01\xfe"}, {"[^\x01-\xfe]", "\x00\x00\xff\xff"}, {"[^\n]", "\x00\t\v\xff"}, {`[\^a]`, "^^aa"}, {`[^\^]`, "\x00]_\xff"}, {"[Z-^]", "Z^"}, {"[^^-a]", "\x00]b\xff"}, {"[-^]", "--^^"}, {"[^[]", "\x00Z\\\xff"},
		// the six classes within
		{`[\d]`, "09"}, {`[\da]`, "09aa"}, {`[a\d]`, "09aa"}, {`[\d\s]`, "\t\r  09"}, {`[\w.]`, "..09AZ__az"}, {`[\w-]`, "--09AZ__az"}, {`[\D5]`, "\x00/55:\xff"}, {`[\d\D]`, "\x00\xff"}, {`[\W_]`, "\x00/:@[`{\xff"}, {`[\S ]`, "\x00\x08\x0e\xff"}, {"[\\S\t-\r]", "\x00\x1f!\xff"}, {`[\W\d]`, "\x00@[^``{\xff"}, {`[\s\S]`, "\x00\xff"}, {`[\d:-@]`, "0@"}, {`[\dd]`, "09dd"},
		{`[^\d]`, "\x00/:\xff"}, {`[^\w]`, "\x00/:@[^``{\xff"}, {`[^\s]`, "\x00\x08\x0e\x1f!\xff"}, {`[^\D]`, "09"}, {`[^\W]`, "09AZ__az"}, {`[^\S]`, "\t\r  "}, {`[^\da]`, "\x00/:`b\xff"}, {`[^\Wa]`, "09AZ__bz"}, {`[^\D\s]`, "09"}, {`[^\D5]`, "0469"},
		// - beside a class
		{`[\d-]`, "--09"}, {`[-\d]`, "--09"}, {`[\d-a]`, "--09aa"}, {`[a-\d]`, "--09aa"}, {`[\d-\s]`, "\t\r  --09"}, {`[+-\d]`, "++--09"}, {`[\d-z]`, "--09zz"}, {`[\d-a-z]`, "--09az"}, {`[a-z-\d]`, "--09az"}, {`[a-\d-z]`, "--09aazz"}, {`[+-\D-/]`, "\x00/:\xff"}, {`[^\d-]`, "\x00,./:\xff"}, {`[^a-\d]`, "\x00,./:`b\xff"}, {`[\d--]`, "--09"}, {`[\d--/]`, "--/9"}, {`[\d---/]`, "-9"}, {`[+--\d]`, "++--09"}, {`[+---\d]`, "+-09"}, {`[--\d]`, "--09"}, {`[\d--\d]`, "--09"}, {`[a--\d]`, "--09aa"}, {`[\d\--/]`, "-9"}, {`[\w--a]`, "--09AZ__az"},
		// runs that touch or overlap
		{"[a-cb-d]", "ad"}, {"[a-cd-f]", "af"}, {"[d-fa-c]", "af"}, {"[a-ce-g]", "aceg"}, {"[a-ceg-id]", "aegi"}, {"[a-zm]", "az"}, {"[ma-z]", "az"}, {"[a-ca-c]", "ac"}, {"[abcxyz]", "acxz"}, {"[\x00\x01]", "\x00\x01"}, {"[\xfe\xff]", "\xfe\xff"}, {"[\x00a\xff]", "\x00\x00aa\xff\xff"}, {"[\xff\x00]", "\x00\x00\xff\xff"}, {"[\x00-\x7f\x80-\xff]", "\x00\xff"}, {"[\x00-~\x80-\xff]", "\x00~\x80\xff"}, {"[8\\d:]", "0:"}, {"[/\\d]", "/9"},
		// no byte
		{"[^\x00-\xff]", ""}, {`[^\d\D]`, ""}, {`[^\s\S]`, ""}, {"[^\x80-\xff\x00-\x7f]", ""},
	} {
		setIs(t, x.s, x.pairs)
	}
	inner(t, "[a]]", 0, "Set aa; Set ]]")
	inner(t, "[a-]]", 0, "Set --aa; Set ]]")
	inner(t, "[+-]]", 0, "Set ++--; Set ]]")
	inner(t, "[]]]", 0, "Set ]]; Set ]]")
	inner(t, "[^]]]", 0, `Set "\x00\\^\xff"; Set ]]`)
	inner(t, "[]-]-a]", 0, "Set --]]; Set --; Set aa; Set ]]")
	inner(t, "[[a]]", 0, "Set [[aa; Set ]]")
	inner(t, "[[:d:]]", 0, "Set ::[[dd; Set ]]")
	inner(t, "[^\x00-\xff]*a", 0, `Split 2 4; Set ""; Jump 1; Set aa`)
	inner(t, "[a][b]", 0, "Set aa; Set bb")
	inner(t, "[(]a[)]", 0, "Set ((; Set aa; Set ))")
	inner(t, "[|]|[|]", 0, "Split 2 4; Set ||; Jump 5; Set ||")
}

func TestWrongBrackets(t *testing.T) {
	for _, s := range []string{
		"[", "[]", "[^", "[^]", "[a", "[a-", "[a-b", "[]a", "[^]a", "[^a", "[-", "[--", "[a]b[", "[a][", "[(", "[()", "[|", `[\`, `[\]`, `[a\]`, `[a-\]`, `[\\\]`, `[^\]`, `[]\]`, `[\d`, `[\d-`, "[[", "[a[", "[]-a", "[^]-", "a[b", "(a[)", "(a[b)", `\[[`,
		"[b-a]", "[z-a]", "[a-A]", "[1-0]", "[\xff-\xfe]", "[\x01-\x00]", "[a-bd-c]", "[d-ca-b]", "[^b-a]", "[a--b]", "[a-\\-]", "[]-[]", "[^]-[]", `[\]-[]`, `[\b-a]`, "[.--0]", "[a-b-d-c]", "[/--.]", `[\d-b-a]`, "[b-aa-b]",
		`[\a]`, `[\0]`, `[\n]`, `[\e-f]`, `[a-\z]`, `[a-\9]`, `[\Z]`, `[\d\x]`, `[\b]`, `[\p]`, `[]\a]`, `[^\a]`, `[\x41]`, `[a\]b`, `[-\a]`, `[\d-\a]`,
	} {
		setFails(t, s)
	}
}

// P11.1: errors

func TestSyntax(t *testing.T) {
	for _, s := range []string{
		// a repetition with nothing in front
		"*", "+", "?", "*?", "+?", "??", "*a", "+a", "?a", "a|*", "a|+b", "|?", "|*?", "(*)", "(+a)", "(?)", "(?a)", "(a|*)", "(|+)", "(?:*)", "(?:+)", "(?:?)", "(?:??)", "(?:a|?)", "a(*b)", "||*",
		// behind another one
		"a**", "a*+", "a+*", "a++", "a?*", "a?+", "a???", "a*??", "a+??", "a*?*", "a*?+", "a+?*", "a??*", "a??+", "(a)**", "[a]**", "^**", "$++", `\d?+`, "a*?b**", "a+*|b", ".***", "()???",
		// groups
		")", "a)", "(a))", "a)b", ")(", "())", "(?:a))", "|)", "a|)", ")*", "(", "a(", "(a", "((a)", "(a|", "(|", "(a(b)", "(?:", "(?:a", "(?:(a)", "((?:a)", "()(", "a*(", "(a)(b",
		"(?", "(?=a)", "(?!a)", "(?<a>b)", "(?P<a>b)", "(?i)a", "(?#a)", "(??:a)", "(?*a)", "(? :a)", "(?a:b)", "a(?", "(?(a))", "(?)", "(?|a)", "(?[a])", `(?\:a)`, "(*:a)",
		// strokes
		`\`, `a\`, `\\\`, `(\`, `(a\`, `a|\`, `a*\`, `[a]\`, `\a`, `\b`, `\n`, `\t`, `\r`, `\0`, `\1`, `\9`, `\x41`, `\pL`, `\A`, `\z`, `\Q`, `\E`, `\B`, `a\b`, `(\a)`, `\a*`, `\d\a`,
	} {
		fails(t, s, api.ErrSyntax)
		holds(t, s)
	}
}

func TestDeep(t *testing.T) {
	for _, open := range []string{"(", "(?:", "(?:(", "((?:", "a(", "(|", "[(](", `\((`} {
		closed := strings.Repeat(")", strings.Count(strings.NewReplacer("[(]", "", `\(`, "").Replace(open), "("))
		each := len(closed)
		for n := deepest/each - 1; n <= deepest/each+1; n++ {
			whole := strings.Repeat(open, n) + "a" + strings.Repeat(closed, n)
			if n*each <= deepest {
				holds(t, whole)
				if _, err := rex.Compile(whole); err != api.OK {
					t.Errorf("%d groups within one another, of %s, are the error %d", n*each, open, err)
				}
				fails(t, strings.Repeat(open, n), api.ErrSyntax)
				fails(t, whole+")", api.ErrSyntax)
				// As many groups again are none within them.
				holds(t, whole+"|"+whole)
				continue
			}
			fails(t, whole, api.ErrDeep)
			fails(t, strings.Repeat(open, n), api.ErrDeep)
			fails(t, strings.Repeat(open, 2*n), api.ErrDeep)
		}
	}
	full := strings.Repeat("(", deepest)
	closed := strings.Repeat(")", deepest)
	is(t, full+closed, deepest, nested(deepest))
	is(t, strings.Repeat("(?:", deepest)+"a"+closed, 0, program("Save 0; Set aa; Save 1; Match"))
	for _, s := range []string{full + "(", full + "(?:", full + "a|b(", full + "(a" + closed + ")", full + "(?:a" + closed + ")", full[1:] + "()(())", full[2:] + "(?:)((?:)(())", strings.Repeat("(?:", deepest) + "("} {
		fails(t, s, api.ErrDeep)
		holds(t, s)
	}
	for _, s := range []string{full[1:] + "()()(?:)" + closed[1:], full + "a" + closed + full + closed, full[1:] + "(a)*(b)" + closed[1:], full + "[(]" + closed, full + `\(` + closed} {
		holds(t, s)
		if _, err := rex.Compile(s); err != api.OK {
			t.Errorf("Compile(%q) is the error %d", short(s), err)
		}
	}
}

// nested is the program of n groups within one another.
func nested(n int) []rex.Inst {
	var l []rex.Inst
	for i := range n + 1 {
		l = append(l, rex.Inst{Op: rex.Save, X: 2 * i})
	}
	for i := n; i >= 0; i-- {
		l = append(l, rex.Inst{Op: rex.Save, X: 2*i + 1})
	}
	return append(l, rex.Inst{Op: rex.Match})
}

func TestFirstErrorFromLeftToRight(t *testing.T) {
	deep := strings.Repeat("(", deepest+1)
	many := strings.Repeat("a", most)
	for _, x := range []struct {
		s    string
		want api.Errno
	}{
		{"*" + deep, api.ErrSyntax}, {deep + "*", api.ErrDeep}, {deep + "[", api.ErrDeep}, {deep + `\`, api.ErrDeep}, {deep + ")", api.ErrDeep}, {deep + "?", api.ErrDeep}, {deep + "?x", api.ErrDeep}, {")" + deep, api.ErrSyntax}, {"a**" + deep, api.ErrSyntax}, {"[b-a]" + deep, api.ErrSyntax}, {`\a` + deep, api.ErrSyntax}, {"(?" + deep, api.ErrSyntax}, {"(?=" + deep, api.ErrSyntax},
		{"[" + deep, api.ErrSyntax}, {"[a" + deep, api.ErrSyntax}, {"[b-a" + deep, api.ErrSyntax}, {`[\a` + deep, api.ErrSyntax}, {deep[1:] + "*(", api.ErrSyntax}, {deep[1:] + "[(", api.ErrSyntax}, {deep[1:] + "(*", api.ErrDeep}, {deep[1:] + "(?", api.ErrDeep}, {deep[1:] + "(?=", api.ErrDeep}, {deep[1:] + "a", api.ErrSyntax},
		{deep[1:] + "?(", api.ErrSyntax}, {deep[1:] + "?:((", api.ErrDeep}, {deep[2:] + "(?(", api.ErrSyntax}, {deep[1:] + ")((", api.ErrDeep}, {deep[1:] + "))((", api.ErrSyntax}, {deep[1:] + ")(", api.ErrSyntax},
		// the number of instructions comes behind all of these
		{many + "*", api.ErrLimit}, {many + "**", api.ErrSyntax}, {many + ")", api.ErrSyntax}, {many + "(", api.ErrSyntax}, {many + deep, api.ErrDeep}, {many + "[", api.ErrSyntax}, {many + `\`, api.ErrSyntax}, {many + `\a`, api.ErrSyntax}, {many + "[b-a]", api.ErrSyntax}, {many + "(?", api.ErrSyntax}, {many, api.ErrLimit}, {"*" + many, api.ErrSyntax}, {deep + many, api.ErrDeep},
		// the number of bytes comes ahead of all
		{strings.Repeat("*", longest), api.ErrSyntax}, {strings.Repeat("*", longest+1), api.ErrLimit}, {strings.Repeat("(", longest), api.ErrDeep}, {strings.Repeat("(", longest+1), api.ErrLimit}, {strings.Repeat("[", longest), api.ErrSyntax}, {strings.Repeat("[", longest+1), api.ErrLimit}, {strings.Repeat(")", longest+1), api.ErrLimit}, {strings.Repeat(`\`, longest+1), api.ErrLimit}, {strings.Repeat("a", longest), api.ErrLimit}, {strings.Repeat("a", longest+1), api.ErrLimit}, {strings.Repeat("a", longest-1) + "*", api.ErrLimit}, {strings.Repeat("a", longest-1) + "(", api.ErrSyntax}, {strings.Repeat("a", longest) + "(", api.ErrLimit},
	} {
		fails(t, x.s, x.want)
		holds(t, x.s)
	}
}

func TestLongTexts(t *testing.T) {
	for n := longest - 2; n <= longest+2; n++ {
		for _, s := range []string{
			"[" + strings.Repeat("a", n-2) + "]", "[" + strings.Repeat("a-a", (n-2)/3) + strings.Repeat("a", (n-2)%3) + "]", "[^" + strings.Repeat("\xff", n-3) + "]", "[" + strings.Repeat(`\-`, (n-2)/2) + "]" + strings.Repeat("a", n%2),
			strings.Repeat("(?:)", n/4) + strings.Repeat("a", n%4), "[" + strings.Repeat("ä", (n-2)/2) + "]" + strings.Repeat("a", n%2),
		} {
			if len(s) != n {
				t.Fatal("a text of", len(s), "bytes, not", n)
			}
			if n > longest {
				fails(t, s, api.ErrLimit)
				continue
			}
			holds(t, s)
			if _, err := rex.Compile(s); err != api.OK {
				t.Errorf("Compile(%q) of %d bytes is the error %d", short(s), n, err)
			}
		}
	}
	// Lengths that a smaller integer would take round to a short one.
	for _, n := range []int{1 << 16, 1<<16 + 1, 1 << 20} {
		for _, s := range []string{"a", "(", ")", "[", "*", `\`, "|", "(?:)"} {
			fails(t, strings.Repeat(s, n), api.ErrLimit)
		}
	}
}

func TestMaxRex(t *testing.T) {
	left := most - 3 // Save 0, Save 1 and Match
	for _, x := range []struct {
		piece string
		each  int
	}{
		{"a", 1}, {"^", 1}, {"[a]", 1}, {"a*", 3}, {"a*?", 3}, {"a+", 2}, {"a?", 2}, {"()", 2}, {"(a)", 3}, {"(a)?", 4}, {"(a|b)", 6}, {"(?:|)", 2}, {"(?:)*", 2}, {"(?:a|b|c)", 7}, {"(?:a*)*", 5},
	} {
		n, rest := left/x.each, left%x.each
		for more := -1; more <= 1; more++ {
			s := strings.Repeat(x.piece, n)
			if rest+more >= 0 {
				s += strings.Repeat("b", rest+more)
			} else {
				s = strings.Repeat(x.piece, n-1) + strings.Repeat("b", x.each-1)
			}
			holds(t, s)
			p, err := rex.Compile(s)
			if more > 0 {
				fails(t, s, api.ErrLimit)
			} else if err != api.OK || len(p.L) != most+more {
				t.Errorf("a program of %d instructions, of many %s, is %d of them, %d", most+more, x.piece, len(p.L), err)
			}
		}
	}
	// Branches: each but the last takes two instructions more.
	for _, x := range []struct {
		s    string
		size int
	}{
		{strings.Repeat("a|", 340), 3*340 + 3}, {strings.Repeat("a|", 340) + "a", 3*340 + 4}, {strings.Repeat("a|", 340) + "aa", 3*340 + 5}, {strings.Repeat("|", 510), 1023}, {strings.Repeat("|", 510) + "a", 1024}, {strings.Repeat("|", 510) + "aa", 1025}, {strings.Repeat("|", 511), 1025}, {strings.Repeat("|", longest), 2*longest + 3},
	} {
		holds(t, x.s)
		p, err := rex.Compile(x.s)
		if x.size > most {
			fails(t, x.s, api.ErrLimit)
		} else if err != api.OK || len(p.L) != x.size {
			t.Errorf("Compile(%q) is %d instructions, %d, not %d of them", short(x.s), len(p.L), err, x.size)
		}
	}
	// Groups without a number take nothing: the limit is on instructions, not on bytes or groups.
	long := strings.Repeat("(?:)", longest/4)
	is(t, long, 0, program("Save 0; Save 1; Match"))
	is(t, strings.Repeat("()", (most-4)/2), (most-4)/2, func() []rex.Inst {
		l := []rex.Inst{{Op: rex.Save}}
		for i := range most - 4 {
			l = append(l, rex.Inst{Op: rex.Save, X: i + 2})
		}
		return append(l, rex.Inst{Op: rex.Save, X: 1}, rex.Inst{Op: rex.Match})
	}())
	fails(t, strings.Repeat("()", (most-2)/2), api.ErrLimit)
}

// P11.1: every short text, and many others

func TestShortTexts(t *testing.T) {
	for _, x := range []struct {
		letters string
		n       int
	}{
		{"a|()*?:", 5}, {"a*+?|", 6}, {"(?:)a|", 6}, {`[]^-a\d`, 5}, {`[]-+,\`, 5}, {`^$.a*(`, 5}, {`\ds-[]`, 6},
	} {
		for _, s := range textsOf(x.letters, x.n) {
			holds(t, s)
		}
	}
	for _, s := range textsOf(`-+/\d^`, 6) {
		holds(t, "["+s+"]")
	}
	for _, s := range textsOf("(a)*|", 6) {
		holds(t, "(?:"+s+")")
	}
	for a := range 256 {
		for b := range 256 {
			holds(t, bytesOf(a, b))
			holds(t, "["+bytesOf(a, '-', b)+"]")
		}
	}
}

func TestScatteredTexts(t *testing.T) {
	d := dice{seed: 11}
	good := 0
	for range 20000 {
		s := d.expression(4)
		holds(t, s)
		if _, err := compileOf(s); err == api.OK && len(s) > 5 {
			good++
		}
		holds(t, d.bracket())
		holds(t, d.text("abcd|()*+?^$.-[]\\:", d.upTo(12)))
	}
	if good < 3000 {
		t.Error("no more than", good, "of the expressions are such")
	}
	for range 300 {
		s := ""
		for len(s) < 3000 {
			s += d.expression(6)
		}
		holds(t, s)
		holds(t, s[:d.upTo(600)])
	}
}

// P11.2

func TestHas(t *testing.T) {
	for _, x := range []struct{ pairs, want string }{
		{"", ""}, {"aa", "a"}, {"ac", "abc"}, {"aacc", "ac"}, {"acxz", "abcxyz"}, {"09AZ__az", "0123456789ABCDEFGHIJKLMNOPQRSTUVWXYZ_abcdefghijklmnopqrstuvwxyz"}, {"\x00\x00", "\x00"}, {"\xff\xff", "\xff"}, {"\x00\x01\xfe\xff", "\x00\x01\xfe\xff"}, {"\x7f\x80", "\x7f\x80"},
		// a last byte without a second one
		{"a", ""}, {"\x00", ""}, {"\xff", ""}, {"aab", "a"}, {"aca", "abc"}, {"aacca", "ac"}, {"aa\x00", "a"},
		// runs in no order, twice, or over one another: in one of them is enough
		{"xzac", "abcxyz"}, {"acbd", "abcd"}, {"acac", "abc"}, {"bbaa", "ab"}, {"azmm", "abcdefghijklmnopqrstuvwxyz"},
		// one that ends below its start
		{"ca", ""}, {"b\x00", ""}, {"\xff\x00", ""}, {"caxx", "x"}, {"xxca", "x"}, {"cax", ""},
	} {
		hasJust(t, x.pairs, x.want)
	}
	for c := range 256 {
		hasIs(t, "\x00\xff", byte(c), true)
		hasIs(t, "\x00\x7f\x80\xff", byte(c), true)
		hasIs(t, "09af", byte(c), '0' <= c && c <= '9' || 'a' <= c && c <= 'f')
	}
	// Bytes just beside a run
	for low := 1; low < 255; low += 3 {
		for high := low; high < 255; high += 7 {
			pairs := bytesOf(low, high)
			hasIs(t, pairs, byte(low-1), false)
			hasIs(t, pairs, byte(low), true)
			hasIs(t, pairs, byte(high), true)
			hasIs(t, pairs, byte(high+1), false)
		}
	}
}

func TestHasOfManyPairs(t *testing.T) {
	d := dice{seed: 5}
	for range 3000 {
		var l []int
		for range d.upTo(9) {
			l = append(l, d.upTo(256))
		}
		pairs := bytesOf(l...)
		for range 20 {
			c := byte(d.upTo(256))
			hasIs(t, pairs, c, hasOf(pairs, c))
		}
	}
	long := strings.Repeat("ac", 1<<20)
	hasIs(t, long, 'd', false)
	hasIs(t, long+"dd", 'd', true)
	hasIs(t, long+"d", 'd', false)
	hasIs(t, long, 'b', true)
}

func TestHasOfCompiledSets(t *testing.T) {
	d := dice{seed: 3}
	for range 500 {
		s := d.bracket()
		want, ok := setOf(wide(s))
		p, err := rex.Compile(s)
		if err != api.OK || !ok || len(p.L) != 4 {
			continue // one with more behind it, or none
		}
		for c := range 256 {
			hasIs(t, p.L[1].Pairs, byte(c), want[c])
		}
	}
}

// P11.3

var samples = []string{"a+", "", "a|b|[c-e]", "(a)(?:b)*?[^c]", `\w\d\s.`, "()()()", "^$", "[^\x00-\xff]", "[a-c][a-c][a-c]", "(a|(b))*(c)"}

func TestResultsShareNoMemory(t *testing.T) {
	var progs []rex.Prog
	for _, s := range slices.Concat(samples, samples) {
		p, _ := rex.Compile(s)
		progs = append(progs, p)
	}
	var places []*rex.Inst
	var pairs []string
	for _, p := range progs {
		whole := p.L[:cap(p.L)]
		for i := range whole {
			places = append(places, &whole[i])
			pairs = append(pairs, whole[i].Pairs)
		}
	}
	for i := range places {
		for j := range i {
			if places[i] == places[j] {
				t.Error("two programs have instructions in one place of memory")
			}
			if meet(pairs[i], pairs[j]) {
				t.Errorf("two instructions have their Pairs %q in one place of memory", pairs[i])
			}
		}
	}
	// What is done to one answer is not seen in another.
	for i := range progs {
		for j := range progs[i].L[:cap(progs[i].L)] {
			progs[i].L[:cap(progs[i].L)][j] = rex.Inst{Op: 9, X: 9, Y: 9, Pairs: "?"}
		}
		_ = append(progs[i].L, rex.Inst{Op: 8})
		for _, s := range samples {
			holds(t, s)
		}
	}
}

func TestArgumentsAreNotKept(t *testing.T) {
	for _, s := range samples {
		b := []byte(s)
		p, err := rex.Compile(over(b))
		if string(b) != s {
			t.Errorf("Compile(%q) has changed it", s)
		}
		for _, x := range p.L {
			if meet(x.Pairs, over(b)) {
				t.Errorf("Compile(%q) has kept it", s)
			}
		}
		for i := range b {
			b[i] = '#'
		}
		want, _ := compileOf(s)
		if err != api.OK || p.Groups != want.Groups || !slices.Equal(p.L, want.L) {
			t.Errorf("Compile(%q) has changed since: %s", s, show(p.L))
		}
	}
}

func TestResultsDependOnTheirArgumentsAlone(t *testing.T) {
	var before []rex.Prog
	for _, s := range samples {
		p, _ := rex.Compile(s)
		before = append(before, p)
	}
	for _, s := range []string{"(", "*", strings.Repeat("(", 100), strings.Repeat("a", 2000), "(((a)))|b", "[", ")"} {
		rex.Compile(s)
		for i, sample := range samples {
			is(t, sample, before[i].Groups, before[i].L)
			holds(t, sample)
		}
	}
	done := make(chan bool)
	for range 8 {
		go func() {
			ok := true
			for range 50 {
				for i, s := range samples {
					p, err := rex.Compile(s)
					ok = ok && err == api.OK && p.Groups == before[i].Groups && slices.Equal(p.L, before[i].L) && rex.Has("ac", 'b')
				}
			}
			done <- ok
		}()
	}
	for range 8 {
		if !<-done {
			t.Error("a call beside others has another answer")
		}
	}
}

// W1

func TestGoodTime(t *testing.T) {
	inGoodTime(t, func() {
		open, closed := strings.Repeat("(", deepest), strings.Repeat(")", deepest)
		optional := strings.Repeat("(?:", deepest) + "a" + strings.Repeat(")*", deepest)
		for range 2 {
			rex.Compile(open + strings.Repeat("a*", 1980) + closed)
			rex.Compile(open + strings.Repeat("|", 3968) + closed)
			rex.Compile(strings.Repeat("(|", deepest) + strings.Repeat("a*", 1900) + closed)
			rex.Compile(optional)
			rex.Compile(strings.Repeat("[^a]", longest/4))
			rex.Compile(strings.Repeat(`\w`, longest/2))
			rex.Compile(strings.Repeat("[a", longest/2))
			rex.Compile(strings.Repeat("(?:", deepest) + strings.Repeat("a*", 1800) + strings.Repeat(")*?", deepest))
			rex.Compile(strings.Repeat("a", 1<<24))
			rex.Has(strings.Repeat("ba", 1<<22), 'c')
		}
	})
}
