package tokens

import (
	"strings"
	"testing"

	"newel/api"
)

// P1.1: kinds and texts.
func TestRawTokens(t *testing.T) {
	for _, c := range []struct{ text, want string }{
		{"", ""},
		{" \t\n ", ""},
		{"val x = 1 // one", "Key:val Name:x Mark:= Int:1"},
		{"_ _a __ a_1 A9_", "Mark:_ Name:_a Name:__ Name:a_1 Name:A9_"},
		{"defx def", "Name:defx Key:def"},
		{"( ) [ ] { } , . ; @ _", "Mark:( Mark:) Mark:[ Mark:] Mark:{ Mark:} Mark:, Mark:. Mark:; Mark:@ Mark:_"},
		{"'{ } ${ }", "Mark:'{ Mark:} Mark:${ Mark:}"},
		{"'{${a}}", "Mark:'{ Mark:${ Name:a Mark:} Mark:}"},
		{"= => <- : <: >:", "Mark:= Mark:=> Mark:<- Mark:: Mark:<: Mark:>:"},
		{"== =>> <-- :: <:< >:> := -> ? +-*/%<>=!&|^~:?", "Op:== Op:=>> Op:<-- Op::: Op:<:< Op:>:> Op::= Op:-> Op:? Op:+-*/%<>=!&|^~:?"},
		{"a<-b a<- -b a=-1", "Name:a Mark:<- Name:b Name:a Mark:<- Op:- Name:b Name:a Op:=- Int:1"},
		{"0 10 2147483647", "Int:0 Int:10 Int:2147483647"},
		{"0L 2147483648L 9223372036854775807L", "Long:0 Long:2147483648 Long:9223372036854775807"},
		{"1+2 1.2 1\"a\"", "Int:1 Op:+ Int:2 Int:1 Mark:. Int:2 Int:1 String:a"},
		{"f(x)(1)", "Name:f Mark:( Name:x Mark:) Mark:( Int:1 Mark:)"},
	} {
		if got := listing(raw(t, c.text)); got != c.want {
			t.Errorf("Raw(%q) = %s; want %s", c.text, got, c.want)
		}
	}
}

// P1.1: comments separate tokens, and end operators.
func TestRawComments(t *testing.T) {
	for _, c := range []struct{ text, want string }{
		{"//", ""},
		{"a // b /* c\nd", "Name:a Name:d"},
		{"a/**/b", "Name:a Name:b"},
		{"a/* b /* c */ d */e", "Name:a Name:e"},
		{"a /*/ b */ c", "Name:a Name:c"},
		{"a /* // */ b", "Name:a Name:b"},
		{"a /* \" ' */ b", "Name:a Name:b"},
		{"a /* b\n*/ c", "Name:a Name:c"},
		{"+// a", "Op:+"},
		{"+/* a */+", "Op:+ Op:+"},
		{"=//", "Mark:="},
		{"=/**/>", "Mark:= Op:>"},
		{"*/*a*//", "Op:* Op:/"},
		{"*/ a", "Op:*/ Name:a"},
		{"+/", "Op:+/"},
		{"\"// a\" '/' \"/*\"", "String:// a Char:/ String:/*"},
	} {
		if got := listing(raw(t, c.text)); got != c.want {
			t.Errorf("Raw(%q) = %s; want %s", c.text, got, c.want)
		}
	}
}

// P1.1: Chars and Strings.
func TestRawLiterals(t *testing.T) {
	for _, c := range []struct {
		text, want string
		kind       int
	}{
		{"'a'", "a", Char},
		{"' '", " ", Char},
		{"'~'", "~", Char},
		{"'\"'", "\"", Char},
		{"'$'", "$", Char},
		{`'\n'`, "\n", Char},
		{`'\t'`, "\t", Char},
		{`'\\'`, "\\", Char},
		{`'\''`, "'", Char},
		{`'\"'`, "\"", Char},
		{`'\$'`, "$", Char},
		{`'\x00'`, "\x00", Char},
		{`'\x7b'`, "{", Char},
		{`'\xff'`, "\xff", Char},
		{`""`, "", String},
		{`"a 'b' $c ${d} '{"`, "a 'b' $c ${d} '{", String},
		{`"\n\t\\\'\"\$\x09\xc3\xa4"`, "\n\t\\'\"$\t\xc3\xa4", String},
		{`"\x414"`, "A4", String},
	} {
		l := raw(t, c.text)
		if len(l) != 1 || l[0].Kind != c.kind || l[0].Text != c.want {
			t.Errorf("Raw(%q) = %v; want %q", c.text, l, c.want)
		}
	}
}

// P1.1: interpolated strings.
func TestRawInterpolated(t *testing.T) {
	for _, c := range []struct{ text, want string }{
		{`s""`, "Start:s Part: End:"},
		{`s"a$b c${d}"`, "Start:s Part:a Name:b Part: c Mark:${ Name:d Mark:} Part: End:"},
		{`s"$a$b"`, "Start:s Part: Name:a Part: Name:b Part: End:"},
		{`s"${a}${b}"`, "Start:s Part: Mark:${ Name:a Mark:} Part: Mark:${ Name:b Mark:} Part: End:"},
		{`s"$this."`, "Start:s Part: Key:this Part:. End:"},
		{`s"$_a$__"`, "Start:s Part: Name:_a Part: Name:__ Part: End:"},
		{`s"$a1-"`, "Start:s Part: Name:a1 Part:- End:"},
		{`s"$s" "t"`, "Start:s Part: Name:s Part: End: String:t"},
		{`s"\$a\"\n\x41'{ '"`, "Start:s Part:$a\"\nA'{ ' End:"},
		{`s"a" s "b"`, "Start:s Part:a End: Name:s String:b"},
		{`if"a" _"b" _c"d"`, "Key:if String:a Mark:_ String:b Start:_c Part:d End:"},
		{`s"${ {a} }"`, "Start:s Part: Mark:${ Mark:{ Name:a Mark:} Mark:} Part: End:"},
		{`s"${ '{ ${a} } }b"`, "Start:s Part: Mark:${ Mark:'{ Mark:${ Name:a Mark:} Mark:} Mark:} Part:b End:"},
		{`s"${t"${u"$v"}"}"`, "Start:s Part: Mark:${ Start:t Part: Mark:${ Start:u Part: Name:v Part: End: Mark:} Part: End: Mark:} Part: End:"},
		{"s\"a${ b // }\n /* } */ '}' \"}\" }c\"", "Start:s Part:a Mark:${ Name:b Char:} String:} Mark:} Part:c End:"},
		{`s"${}"`, "Start:s Part: Mark:${ Mark:} Part: End:"},
	} {
		if got := listing(raw(t, c.text)); got != c.want {
			t.Errorf("Raw(%q) = %s; want %s", c.text, got, c.want)
		}
	}
}

// P1.1: At, Line and Col.
func TestRawPlaces(t *testing.T) {
	for _, c := range []struct{ text, want string }{
		{"a bc\td", "0/0/0 2/0/2 5/0/5"},
		{"a\n\n\tb c", "0/0/0 4/2/1 6/2/3"},
		{"a /*\n*/ b\nc", "0/0/0 8/1/3 10/2/0"},
		{"a // b\nc", "0/0/0 7/1/0"},
		{`x s"a$b${c}"`, "0/0/0 2/0/2 4/0/4 6/0/6 7/0/7 7/0/7 9/0/9 10/0/10 11/0/11 11/0/11"},
		{"s\"${\nb\n }c\"", "0/0/0 2/0/2 2/0/2 5/1/0 8/2/1 9/2/2 10/2/3"},
		{`"\n" a`, "0/0/0 5/0/5"},
		{"1L a", "0/0/0 3/0/3"},
	} {
		if got := places(raw(t, c.text)); got != c.want {
			t.Errorf("Raw(%q) at %s; want %s", c.text, got, c.want)
		}
	}
}

// P1.1: every fault, with its offset.
func TestRawFaults(t *testing.T) {
	for _, c := range []struct {
		text string
		at   int
		code api.Errno
	}{
		// bytes that no text has, ahead of all tokens
		{"a\rb", 1, api.ErrSyntax},
		{"\x00", 0, api.ErrSyntax},
		{"a\x7f", 1, api.ErrSyntax},
		{"\xc3\xa4", 0, api.ErrSyntax},
		{"\"a\x1f\"", 2, api.ErrSyntax},
		{"// \x80", 3, api.ErrSyntax},
		{"1x 2147483648 \x80", 14, api.ErrSyntax},
		// bytes with which no token begins
		{"a #", 2, api.ErrSyntax},
		{"`", 0, api.ErrSyntax},
		{"a\\", 1, api.ErrSyntax},
		{"a $b", 2, api.ErrSyntax},
		{"$", 0, api.ErrSyntax},
		// what is not closed
		{"a \"b", 2, api.ErrSyntax},
		{"a \"b\n\"", 2, api.ErrSyntax},
		{"\"a\tb\"", 0, api.ErrSyntax},
		{"\"a\\\"", 0, api.ErrSyntax},
		{"\"a\\", 0, api.ErrSyntax},
		{"a '", 2, api.ErrSyntax},
		{"'a", 0, api.ErrSyntax},
		{"'a\n'", 0, api.ErrSyntax},
		{"'\\'", 0, api.ErrSyntax},
		{"a /* b", 2, api.ErrSyntax},
		{"/* a /* b */", 0, api.ErrSyntax},
		{"/*/", 0, api.ErrSyntax},
		{"a s\"", 4, api.ErrSyntax},
		{"a s\"b\n\"", 4, api.ErrSyntax},
		{"s\"a$b c", 5, api.ErrSyntax},
		{"s\"a${b} c\n", 7, api.ErrSyntax},
		// escapes
		{`a "b\q"`, 2, api.ErrSyntax},
		{`"\N"`, 0, api.ErrSyntax},
		{`"\x4"`, 0, api.ErrSyntax},
		{`"\x4g"`, 0, api.ErrSyntax},
		{`"\xFF"`, 0, api.ErrSyntax},
		{`"\x4`, 0, api.ErrSyntax},
		{`a '\q'`, 2, api.ErrSyntax},
		{`s"a$b\q"`, 5, api.ErrSyntax},
		// Chars
		{"a ''", 2, api.ErrSyntax},
		{"a 'bc'", 2, api.ErrSyntax},
		{`'\n\n'`, 0, api.ErrSyntax},
		{"'{'", 2, api.ErrSyntax},
		// numbers
		{"a 00", 2, api.ErrSyntax},
		{"01L", 0, api.ErrSyntax},
		{"a 1x", 2, api.ErrSyntax},
		{"1_", 0, api.ErrSyntax},
		{"1l", 0, api.ErrSyntax},
		{"1L1", 0, api.ErrSyntax},
		{"1LL", 0, api.ErrSyntax},
		{"2147483648x", 0, api.ErrSyntax},
		{"a 2147483648", 2, api.ErrRange},
		{"10000000000", 0, api.ErrRange},
		{"9223372036854775808L", 0, api.ErrRange},
		{"10000000000000000000L", 0, api.ErrRange},
		// $ in interpolated strings
		{`s"a$"`, 3, api.ErrSyntax},
		{`s"a$ b"`, 3, api.ErrSyntax},
		{`s"a$$b"`, 3, api.ErrSyntax},
		{`s"a$1b"`, 3, api.ErrSyntax},
		{`s"a$_"`, 3, api.ErrSyntax},
		{`s"a$_-"`, 3, api.ErrSyntax},
		{`s"a$`, 3, api.ErrSyntax},
		// brackets
		{"a )", 2, api.ErrSyntax},
		{"( ]", 2, api.ErrSyntax},
		{"[ )", 2, api.ErrSyntax},
		{"{ )", 2, api.ErrSyntax},
		{"'{ ]", 3, api.ErrSyntax},
		{"( }", 2, api.ErrSyntax},
		{"( ) )", 4, api.ErrSyntax},
		{"a ( [ ] b", 2, api.ErrSyntax},
		{"( [ a", 2, api.ErrSyntax},
		{"a {", 2, api.ErrSyntax},
		{"'{ a", 0, api.ErrSyntax},
		{"${ a", 0, api.ErrSyntax},
		{`s"${ ) }"`, 5, api.ErrSyntax},
		{`( s"${ ) }"`, 7, api.ErrSyntax},
		{`s"a${ b`, 3, api.ErrSyntax},
		{`s"a${ ( b`, 6, api.ErrSyntax},
		{`( s"a${ t"${`, 10, api.ErrSyntax},
		// the first one, from left to right
		{"2147483648 1x", 0, api.ErrRange},
		{"( \"a", 2, api.ErrSyntax},
	} {
		l, f := Raw(c.text)
		wantFault(t, c.text, l, f, api.Fault{At: c.at, Code: c.code})
	}
}

// P1.1: the limits of a text, of names and of brackets.
func TestRawLimits(t *testing.T) {
	blanks := strings.Repeat(" ", api.MaxText)
	raw(t, blanks)
	l, f := Raw(blanks + "\x80")
	wantFault(t, "a long text", l, f, api.Fault{Code: api.ErrLimit})
	for _, b := range []string{"a", "_", "+", "d1"} {
		word := strings.Repeat(b, api.MaxName)[:api.MaxName]
		if got := raw(t, "x "+word); len(got) != 2 || got[1].Text != word {
			t.Errorf("a word of %q: %v", b, got)
		}
		l, f = Raw("x " + word + b)
		wantFault(t, word+b, l, f, api.Fault{At: 2, Code: api.ErrLimit})
	}
	name := strings.Repeat("a", api.MaxName)
	raw(t, name+`"$`+name+`"`)
	l, f = Raw("x a" + name + `"`)
	wantFault(t, "a long Start", l, f, api.Fault{At: 2, Code: api.ErrLimit})
	l, f = Raw(`s"$a` + name + `"`)
	wantFault(t, "a long name behind $", l, f, api.Fault{At: 3, Code: api.ErrLimit})
	if got := raw(t, `"`+name+`a" `+`s"`+name+`a"`); len(got[0].Text) != api.MaxName+1 || len(got[2].Text) != api.MaxName+1 {
		t.Errorf("long literals: %v", got)
	}
	l, f = Raw(strings.Repeat("1", 100))
	wantFault(t, "a long number", l, f, api.Fault{Code: api.ErrRange})
}

func TestRawDepth(t *testing.T) {
	for _, b := range []struct{ open, close string }{{"(", ")"}, {"[", "]"}, {"{", "}"}, {"'{", "}"}, {"${", "}"}, {`s"${`, `}"`}} {
		raw(t, strings.Repeat(b.open, api.MaxNest)+strings.Repeat(b.close, api.MaxNest)+b.open+b.close)
		text := strings.Repeat(b.open, api.MaxNest+1) + strings.Repeat(b.close, api.MaxNest+1)
		at := len(b.open) * api.MaxNest
		if strings.HasPrefix(b.open, "s") { // the bracket is behind the quote
			at += 2
		}
		l, f := Raw(text)
		wantFault(t, text, l, f, api.Fault{At: at, Code: api.ErrDepth})
	}
	deep := strings.Repeat("/*", 1000) + strings.Repeat("*/", 1000)
	if got := raw(t, deep); len(got) != 0 {
		t.Errorf("nested comments: %v", got)
	}
}

// P1.1: Scan has the faults of Raw and those of Layout.
func TestScan(t *testing.T) {
	if got := brief(scan(t, "def f =\n  a\n  b\ng")); got != "def f = Indent a Newline b Outdent Newline g Stop" {
		t.Errorf("Scan = %s", got)
	}
	l, f := Scan("  a\n b 1x")
	wantFault(t, "a fault of Raw", l, f, api.Fault{At: 7, Code: api.ErrSyntax})
	l, f = Scan("  a\n b")
	wantFault(t, "a fault of Layout", l, f, api.Fault{At: 5, Code: api.ErrOrder})
	l, f = Scan(strings.Repeat(",", maxTokens+1))
	wantFault(t, "many tokens", l, f, api.Fault{Code: api.ErrLimit})
	if got := scan(t, strings.Repeat(",", maxTokens)); len(got) != maxTokens+1 {
		t.Errorf("%d tokens", len(got))
	}
}
