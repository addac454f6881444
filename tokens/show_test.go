package tokens

import (
	"strings"
	"testing"

	"newel/api"
)

// P1.3: the text of what Raw returned.
func TestShow(t *testing.T) {
	for _, c := range []struct{ text, want string }{
		{"", ""},
		{" a // b", "a"},
		{"f(1,  \"a\\n\") // note", `f ( 1 , "a\n" )`},
		{"val x:Int=1+2L", "val x : Int = 1 + 2L"},
		{"a\n  b\n\tc", "a b c"},
		{"a/**/b", "a b"},
		{"a.b;@c _", "a . b ; @ c _"},
		{"'{a}${b}", "'{ a } ${ b }"},
		{"s\"\" t", `s"" t`},
		{`a(s"a$b c${d+1}")`, `a ( s"a$b c${ d + 1 }" )`},
		{`s"$a$this${}."`, `s"$a$this${ }."`},
		{`s"${t"$a"}"`, `s"${ t"$a" }"`},
		{`s"a"+t"b"`, `s"a" + t"b"`},
		{`if"a"`, `if "a"`},
	} {
		got, e := Show(raw(t, c.text))
		if got != c.want || e != api.OK {
			t.Errorf("Show of %q = %q, %v; want %q", c.text, got, e, c.want)
		}
	}
}

// P1.3: the canonical forms of literals.
func TestShowLiterals(t *testing.T) {
	for _, c := range []struct{ text, want string }{
		{`'a'`, `'a'`},
		{`'\x61'`, `'a'`},
		{`'\n' '\t' '\\' '\''`, `'\n' '\t' '\\' '\''`},
		{`'"' '\"' '$' '\$'`, `'"' '"' '$' '$'`},
		{`'\x7b' '}'`, `'\x7b' '}'`},
		{`'\x00' '\x1f' '\x7f' '\x80' '\xff' '\x20' '\x7e'`, `'\x00' '\x1f' '\x7f' '\x80' '\xff' ' ' '~'`},
		{`'\x0a' '\x09'`, `'\n' '\t'`},
		{`"a'b\"c\\d\n\t\x0d{}$\$\'"`, `"a'b\"c\\d\n\t\x0d{}$$'"`},
		{`s"a'b\"c\\d\n\t\x0d{}\$\'"`, `s"a'b\"c\\d\n\t\x0d{}\$'"`},
		{`s"\x61b"`, `s"ab"`},
		{`s"$a\x61b"`, `s"$a\x61b"`},
		{`s"$a\x39"`, `s"$a\x39"`},
		{`s"$a\x5f_"`, `s"$a\x5f_"`},
		{`s"$this\x61"`, `s"$this\x61"`},
		{`s"$a-b"`, `s"$a-b"`},
		{`s"$a\n"`, `s"$a\n"`},
		{`s"$a\$b"`, `s"$a\$b"`},
		{`s"$a\"b"`, `s"$a\"b"`},
		{`s"${a}b"`, `s"${ a }b"`},
	} {
		got, e := Show(raw(t, c.text))
		if got != c.want || e != api.OK {
			t.Errorf("Show of %q = %q, %v; want %q", c.text, got, e, c.want)
		}
	}
}

// P1.3: lists that no text has.
func TestShowFaults(t *testing.T) {
	long := strings.Repeat("a", api.MaxName+1)
	for _, c := range []struct {
		what string
		list []Token
	}{
		{"a Newline", []Token{{Kind: Newline}}},
		{"an Indent", []Token{{Kind: Name, Text: "a"}, {Kind: Indent}}},
		{"a Stop", []Token{{Kind: Stop}}},
		{"no kind", []Token{{Kind: -1}}},
		{"no kind, but a text", []Token{{Kind: Kinds, Text: "a"}}},
		{"an empty name", []Token{{Kind: Name}}},
		{"a name that is a keyword", []Token{{Kind: Name, Text: "def"}}},
		{"a keyword that is none", []Token{{Kind: Key, Text: "a"}}},
		{"two names in one", []Token{{Kind: Name, Text: "a b"}}},
		{"a name and a comment", []Token{{Kind: Name, Text: "a//"}}},
		{"a name of the kind Op", []Token{{Kind: Op, Text: "a"}}},
		{"an operator that is a mark", []Token{{Kind: Op, Text: "="}}},
		{"a mark that is an operator", []Token{{Kind: Mark, Text: "=="}}},
		{"a long name", []Token{{Kind: Name, Text: long}}},
		{"an Int that is no number", []Token{{Kind: Int, Text: "a"}}},
		{"an Int with zeros", []Token{{Kind: Int, Text: "01"}}},
		{"a large Int", []Token{{Kind: Int, Text: "2147483648"}}},
		{"a negative Int", []Token{{Kind: Int, Text: "-1"}}},
		{"a Long with its L", []Token{{Kind: Long, Text: "1L"}}},
		{"an empty Char", []Token{{Kind: Char}}},
		{"a Char of two bytes", []Token{{Kind: Char, Text: "ab"}}},
		{"a Start alone", []Token{{Kind: Start, Text: "s"}}},
		{"a Start of a keyword", []Token{{Kind: Start, Text: "if"}, {Kind: Part}, {Kind: End}}},
		{"no Part", []Token{{Kind: Start, Text: "s"}, {Kind: End}}},
		{"a Part alone", []Token{{Kind: Part, Text: "a"}}},
		{"an End alone", []Token{{Kind: End}}},
		{"an End with a text", []Token{{Kind: Start, Text: "s"}, {Kind: Part}, {Kind: End, Text: "a"}}},
		{"two Parts", []Token{{Kind: Start, Text: "s"}, {Kind: Part, Text: "a"}, {Kind: Part, Text: "b"}, {Kind: End}}},
		{"an operator in a string", []Token{{Kind: Start, Text: "s"}, {Kind: Part}, {Kind: Op, Text: "+"}, {Kind: Part}, {Kind: End}}},
		{"a Name in front of a String", []Token{{Kind: Name, Text: "a"}, {Kind: Part, Text: "b"}}},
		{"an open bracket", []Token{{Kind: Mark, Text: "("}}},
		{"brackets that do not match", []Token{{Kind: Mark, Text: "("}, {Kind: Mark, Text: "]"}}},
		{"a text that is too long", []Token{{Kind: String, Text: strings.Repeat("a", api.MaxText)}}},
	} {
		if got, e := Show(c.list); got != "" || e != api.ErrForm {
			t.Errorf("%s: %q, %v", c.what, got, e)
		}
	}
}

// P1.3: places mean nothing, and any bytes may stand in literals.
func TestShowAccepts(t *testing.T) {
	l := []Token{{Name, "a", 9, -1, 3}, {Long, "2", 0, 0, 0}, {String, "\r\xff", -5, 7, 0}, {Char, "{", 0, 0, 0}}
	if got, e := Show(l); got != `a 2L "\x0d\xff" '\x7b'` || e != api.OK {
		t.Errorf("Show = %q, %v", got, e)
	}
	if got, e := Show(nil); got != "" || e != api.OK {
		t.Errorf("Show of nothing = %q, %v", got, e)
	}
	longest := []Token{{Kind: String, Text: strings.Repeat("a", api.MaxText-2)}}
	if got, e := Show(longest); len(got) != api.MaxText || e != api.OK {
		t.Errorf("Show of a long text: %d bytes, %v", len(got), e)
	}
	for b := range 256 {
		for _, c := range []struct {
			list []Token
			at   int
		}{
			{[]Token{{Kind: Char}}, 0},
			{[]Token{{Kind: String}}, 0},
			{[]Token{{Kind: Start, Text: "s"}, {Kind: Part}, {Kind: End}}, 1},
			{[]Token{{Kind: Start, Text: "s"}, {Kind: Part}, {Kind: Name, Text: "a"}, {Kind: Part}, {Kind: End}}, 3},
		} {
			c.list[c.at].Text = string([]byte{byte(b)})
			if _, e := Show(c.list); e != api.OK {
				t.Errorf("byte %d, kind %d: %v", b, c.list[c.at].Kind, e)
			}
		}
	}
}
