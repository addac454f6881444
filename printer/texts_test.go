package printer

import (
	"strings"
	"testing"

	"newel/api"
	"newel/parser"
	"newel/syntax"
	"newel/tokens"
)

// shortText and shortDepth are the bytes of a text, and the nesting of its tree,
// up to which the tree must be printed.
const (
	shortText  = 1500
	shortDepth = 30
)

var parsers = []func(string) (syntax.Node, api.Fault){parser.Parse, parser.Expr, parser.Type, parser.Pattern}

// P4.1: whatever is parsed is printed: texts of tokens in any order.
func TestRandomTexts(t *testing.T) {
	words := strings.Fields("( ) ( ) [ ] { } { } , . ; @ _ '{ ${ = => <- : <: >: + - * | & :: +: += =>> ! a b A B 1 2L 'c' \"d\" s\"e\" s\"$a\" s\"${b}\" a b A B case catch class def do else enum extends extension for given if import match new object private return super then this throw try type using val while with yield")
	d := dice(5)
	some := 0
	for range 60000 {
		var b strings.Builder
		for range 1 + d.roll(9) {
			b.WriteString(d.pick(words...))
			b.WriteString(d.pick(" ", " ", " ", "\n", "\n  ", "\n    "))
		}
		for _, parse := range parsers {
			if n, fault := parse(b.String()); fault.Code == api.OK {
				some++
				wantTexts(t, n)
			}
		}
	}
	if some < 3000 {
		t.Errorf("just %d texts have a tree", some)
	}
}

// P4.1, P4.4: texts with parts changed, left out or put in.
func TestRandomChanges(t *testing.T) {
	d := dice(6)
	some := 0
	for _, u := range units {
		for _, text := range []string{u.braces, u.indented} {
			parts := strings.SplitAfter(text, " ")
			for range 150 {
				changed := append([]string(nil), parts...)
				k := d.roll(len(parts))
				changed[k] = []string{"", parts[d.roll(len(parts))], parts[k] + parts[d.roll(len(parts))]}[d.roll(3)]
				n, fault := parser.Parse(strings.Join(changed, ""))
				if fault.Code == api.OK {
					some++
					wantTexts(t, n)
				}
			}
		}
	}
	if some < 1000 {
		t.Errorf("just %d texts have a tree", some)
	}
}

// P4.1: texts that are as long, and trees as deep, as they may be; some would be
// too long with each brace in a line of its own.
func TestLongAndDeepTexts(t *testing.T) {
	items := []string{"{a;a};", "{{{a;a}}};", "{{{{{{a;a}}}}}};", "a=>{a;a};", "a={a;a};", "new A{a;a};", "'{a;a};", "a match{case a=>{a;a}};",
		"enum A{case A,A,A,A};", "def+;", "if(a){a;a}else{a;a};", "try{a;a}finally{a;a};", "return;", "a.+;", "s\"${{a;a}}\";", "class A{val a={a;a}};"}
	for _, open := range []string{"{", "f{", "a={", "a=>{", "if(a){", "throw{", "def f={", "new A{", "a match{case a=>", "object A{", "try{", "-{", "(a+{"} {
		shut := "}"
		if strings.HasPrefix(open, "(") {
			shut = "})"
		}
		for i, item := range items {
			if i > 3 && i%3 != len(open)%3 {
				continue
			}
			if n, ok := nestedText(open, shut, item); ok {
				wantTexts(t, n)
			} else if i == 0 {
				t.Errorf("no text with %s", open)
			}
		}
	}
}

// nestedText returns the tree of a text of an item that is repeated inside of as
// many brackets as possible.
func nestedText(open, shut, item string) (syntax.Node, bool) {
	for levels := shortDepth; levels > 0; levels-- {
		head, tail := strings.Repeat(open, levels), strings.Repeat(shut, levels)
		times := (shortText - len(head) - len(tail) - 12) / len(item)
		var b strings.Builder
		for i := range times {
			if i%200 == 199 { // more than a block has
				b.WriteString("};{")
			}
			b.WriteString(item)
		}
		text := "{" + head + "{{" + b.String() + "}}" + tail + "}"
		n, fault := parser.Expr(text)
		if fault.Code == api.OK && len(text) <= shortText && syntax.Depth(n) <= shortDepth {
			return n, true
		}
	}
	return syntax.Node{}, false
}

// P4.1, P4.4: where lines are too long, nothing but the lines is different.
func TestTightTexts(t *testing.T) {
	n, ok := nestedText("{", "}", "{{{{a;a}}}};")
	if !ok {
		t.Fatal("no text")
	}
	unit := syntax.Node{Kind: syntax.SUnit, Kids: []syntax.Node{
		text(syntax.SDef, "f", syntax.Node{Kind: syntax.SMods}, syntax.Node{Kind: syntax.SNames}, syntax.Node{Kind: syntax.SLists}, syntax.Node{}, n),
		text(syntax.SVal, "a", syntax.Node{Kind: syntax.SMods}, syntax.Node{}, n),
	}}
	wantTexts(t, n)
	wantTexts(t, unit)
	for style := range Styles {
		text, _ := Print(unit, style)
		for other := range Styles {
			want, _ := Print(unit, other)
			if got, fault := Format(text, other); got != want || fault != (api.Fault{}) {
				t.Errorf("styles %d, %d: fault %v, or another text", style, other, fault)
			}
		}
	}
}

// P1: any nodes.
func TestAnyNodes(t *testing.T) {
	d := dice(7)
	for range 30000 {
		n := anyNode(&d, 4)
		check := syntax.Check(n).Code
		for style := range Styles + 1 {
			text, e := in(n, style)
			if check != api.OK && e != check || e != api.OK && text != "" {
				t.Fatalf("%v, style %d: %q, error %d; that of Check is %d", n, style, text, e, check)
			}
			if e == api.OK {
				wantText(t, n, style, text)
			}
		}
	}
}

func anyNode(d *dice, deep int) syntax.Node {
	n := syntax.Node{Kind: d.roll(syntax.Kinds+2) - 1, Text: d.pick("", "", "a", "A", "+", "=", "if", "_", "a.b"), Num: int64(d.roll(4) / 3), At: d.roll(3) - 1}
	for range d.roll(4) {
		if deep > 0 {
			n.Kids = append(n.Kids, anyNode(d, deep-1))
		}
	}
	return n
}

// P1: any bytes.
func TestAnyBytes(t *testing.T) {
	d := dice(9)
	for range 20000 {
		var b strings.Builder
		for range d.roll(20) {
			b.WriteString(d.pick("val a", "def f", " = ", "{", "}", "(", ")", "\n", "  ", "s\"", "\"", "$", "${", "a", "'", ";", "\\", "//", "/*", "*/", "1", "\x00", "\xff"))
		}
		_, raw := tokens.Raw(b.String())
		if words, fault := Words(b.String()); fault != raw || fault.Code != api.OK && words != nil {
			t.Fatalf("Words(%q) = %q, %v", b.String(), words, fault)
		}
		_, parse := parser.Parse(b.String())
		for style := range Styles {
			if text, fault := Format(b.String(), style); fault != parse || fault.Code != api.OK && text != "" {
				t.Fatalf("Format(%q, %d) = %q, %v", b.String(), style, text, fault)
			}
		}
	}
}

// R4: no tree is changed.
func TestArguments(t *testing.T) {
	m := &maker{dice: 8}
	for range 200 {
		n := m.tree("SUnit", 5)
		want := form(n)
		for style := range Styles + 1 {
			in(n, style)
		}
		if form(n) != want {
			t.Fatalf("a tree has been changed: it was %s", want)
		}
	}
}

// The examples of the chapter.
func TestExamples(t *testing.T) {
	n := parsed(t, parser.Parse, "class A { def f(x: Int): Int = { x + 1 } }")
	if text, e := Print(n, Indented); text != "class A:\n  def f(x: Int): Int =\n    x + 1\n" || e != api.OK {
		t.Errorf("%q, error %d", text, e)
	}
	sum := shape(t, `(XInfix "+" (XInt 1) (XInfix "+" (XInt 2) (XInt 3)))`)
	if text, e := Print(sum, Braces); text != "1 + (2 + 3)" || e != api.OK {
		t.Errorf("%q, error %d", text, e)
	}
	wantError(t, "super", shape(t, `(XSuper)`), api.ErrForm)
}
