package parser

import (
	"strings"
	"testing"

	"newel/api"
	"newel/syntax"
	"newel/tokens"
)

// sameTree reports whether trees are equal with their At.
func sameTree(a, b syntax.Node) bool {
	if a.Kind != b.Kind || a.Text != b.Text || a.Num != b.Num || a.At != b.At || len(a.Kids) != len(b.Kids) {
		return false
	}
	for i := range a.Kids {
		if !sameTree(a.Kids[i], b.Kids[i]) {
			return false
		}
	}
	return true
}

// P3.1, P3.2, P3.4: texts of all rules, in braces and by indentation, with
// semicolons and lines, with and without comments: the trees with all At.
func TestRandomTexts(t *testing.T) {
	d := dice(1)
	for i := range 3000 {
		s := &source{dice: &d, deep: 2 + d.roll(5)}
		rule := i % 4
		want := []func() syntax.Node{s.unit, s.expr, s.typ, s.pattern}[rule]()
		parse := []func(string) (syntax.Node, api.Fault){Parse, Expr, Type, Pattern}[rule]
		for style := range 4 {
			text, offsets := render(s.items, &d, style%2 == 1, style >= 2)
			got, fault := parse(text)
			if fault != (api.Fault{}) {
				t.Fatalf("fault %v of\n%s\n%q", fault, text, text[min(fault.At, len(text)):])
			}
			if !syntax.Equal(got, want) {
				a, _ := syntax.Text(got)
				b, _ := syntax.Text(want)
				t.Fatalf("the tree of\n%s\nis\n%s\nwant\n%s", text, a, b)
			}
			if expected := placed(want, offsets); !sameTree(got, expected) {
				t.Fatalf("the offsets of\n%s\nare\n%s\nwant\n%s", text, placesOf(got), placesOf(expected))
			}
			if f := syntax.Check(got); f != (api.Fault{}) {
				t.Fatalf("Check of the tree of\n%s\nis %v", text, f)
			}
		}
	}
}

// P1, P3.1, P3.4: texts of tokens in any order have a right tree, or a fault at
// a token and no tree.
func TestRandomTokens(t *testing.T) {
	words := strings.Fields("( ) [ ] { } , . ; @ _ '{ ${ = => <- : <: >: + - * | & :: +: += := =>> ! a b A B 1 2L 'c' \"d\" s\"e\" s\"$a\" s\"${b}\" abstract case catch class def do else enum extends extension false final finally for given if import inline lazy match new null object override private return sealed super then this throw trait true try type using val var volatile while with yield")
	d := dice(5)
	for range 40000 {
		var b strings.Builder
		for range 1 + d.roll(12) {
			b.WriteString(d.pick(words...))
			b.WriteString(d.pick(" ", " ", " ", "\n", "\n  ", "\n    "))
		}
		checkAny(t, b.String())
	}
}

// P1, P3.1: texts with a token changed, left out or put in.
func TestRandomChanges(t *testing.T) {
	d := dice(9)
	for i := range 3000 {
		s := &source{dice: &d, deep: 2 + d.roll(4)}
		[]func() syntax.Node{s.unit, s.expr, s.typ, s.pattern}[i%4]()
		text, _ := render(s.items, &d, d.roll(2) == 0, false)
		words := strings.SplitAfter(text, " ")
		other := d.roll(len(words))
		switch k := d.roll(len(words)); d.roll(3) {
		case 0:
			words[k] = words[other]
		case 1:
			words[k] += words[other]
		default:
			words[k] = ""
		}
		checkAny(t, strings.Join(words, ""))
	}
}

// checkAny checks what holds for any text.
func checkAny(t *testing.T, text string) {
	t.Helper()
	list, ahead := tokens.Scan(text)
	for i, parse := range []func(string) (syntax.Node, api.Fault){Parse, Expr, Type, Pattern} {
		n, fault := parse(text)
		switch {
		case ahead != (api.Fault{}):
			if fault != ahead {
				t.Fatalf("%q, function %d: fault %v; the tokens have %v", text, i, fault, ahead)
			}
		case fault.Code == api.OK:
			if f := syntax.Check(n); f != (api.Fault{}) {
				t.Fatalf("%q, function %d: Check is %v", text, i, f)
			}
		case !hasToken(list, fault.At) || fault.Code != api.ErrSyntax && fault.Code != api.ErrForm && fault.Code != api.ErrName:
			t.Fatalf("%q, function %d: fault %v", text, i, fault)
		}
		if fault.Code != api.OK && !sameTree(n, syntax.Node{}) {
			t.Fatalf("%q, function %d: a tree with fault %v", text, i, fault)
		}
	}
}

func hasToken(list []tokens.Token, at int) bool {
	for _, t := range list {
		if t.At == at {
			return true
		}
	}
	return false
}

// wantEqual checks that texts have equal trees.
func wantEqual(t *testing.T, parse func(string) (syntax.Node, api.Fault), texts ...string) {
	t.Helper()
	first, fault := parse(texts[0])
	if fault != (api.Fault{}) {
		t.Errorf("%s: fault %v", texts[0], fault)
	}
	for _, text := range texts[1:] {
		n, fault := parse(text)
		if fault != (api.Fault{}) || !syntax.Equal(first, n) {
			got, _ := syntax.Text(n)
			want, _ := syntax.Text(first)
			t.Errorf("%s: %s, fault %v; want %s", text, got, fault, want)
		}
	}
}

// P3.4: braces and indentation.
func TestBracesAndIndentation(t *testing.T) {
	wantEqual(t, Parse, "def f = { a; b }", "def f = {\n  a\n  b\n}", "def f =\n  a\n  b", "def f = {\na\n\nb }", "def f =\n\ta\n\tb")
	wantEqual(t, Parse, "class A { val b = c; def d = { e } }; object F", "class A:\n  val b = c\n  def d =\n    e\nobject F")
	wantEqual(t, Parse, "enum A { case B, C; case D(e: F) }", "enum A:\n  case B, C\n  case D(e: F)")
	wantEqual(t, Parse, "extension (a: A) { def f = b; def g = { c } }", "extension (a: A):\n  def f = b\n  def g =\n    c")
	wantEqual(t, Parse, "type A = B match { case C => D; case E => F }", "type A = B match\n  case C => D\n  case E => F")
	wantEqual(t, Expr, "if a then { b; c } else { d }", "if a then\n  b\n  c\nelse\n  d")
	wantEqual(t, Expr, "while a do { b; c }", "while a do\n  b\n  c")
	wantEqual(t, Expr, "for (a <- { b; c }) yield { d }", "for a <-\n  b\n  c\nyield\n  d")
	wantEqual(t, Expr, "try { a } catch { case b => { c } } finally { d }", "try\n  a\ncatch\n  case b =>\n    c\nfinally\n  d")
	wantEqual(t, Expr, "a match { case b => { c; d } case e => f }", "a match\n  case b =>\n    c\n    d\n  case e => f")
	wantEqual(t, Expr, "a match { case b => c; d; case e => f }", "a match\n  case b => c; d\n  case e => f")
	wantEqual(t, Expr, "a => { b; c }", "a =>\n  b\n  c")
	wantEqual(t, Expr, "{ throw { a }; return { b } }", "{\n  throw\n    a\n  return\n    b\n}")
	wantEqual(t, Expr, "new A { b; c }", "new A:\n  b\n  c")
	wantEqual(t, Expr, "{ a; b } + c", "(\n{ a\nb } + c)")
}

// P3.4: parentheses around an expression, line ends, and comments.
func TestWhatChangesNothing(t *testing.T) {
	for _, e := range []string{"a", "1", "a.b", "a(b)", "a { b }", "{ a }", "-a", "a + b", "a :: b", "a = b", "a => b", "(a, b) => c", "if a then b", "while a do b",
		"for a <- b do c", "try a", "throw a", "return", "a match { case b => c }", "new A", "new A { b }", "'{ a }", `s"$a"`, "(a: A)", "()", "super.a", "a[A]"} {
		wantEqual(t, Expr, e, "("+e+")", "(( "+e+" ))", "/* b */"+e+"// c", "\n\n "+e+"\n", ";"+e+";;")
		wantEqual(t, Expr, "b + ("+e+")", "b + (("+e+"))")
		wantEqual(t, Expr, "b match { case c => "+e+" }", "b match { case c => ("+e+") }")
		wantEqual(t, Parse, "def f = "+e, "def f = ("+e+")", "def f /* a /* b */ */ = // c\n"+e)
	}
	wantEqual(t, Parse, "val a = b; val c = d; type E", "val a = b\nval c = d\ntype E", ";;val a = b;\n\n;val c = d\n\n\ntype E;")
	wantEqual(t, Expr, "{ a; b; c }", "{ a\n b\n c }", "{;a;;b;\nc\n;}", "{\na // ;\nb /* ; */\nc }")
	wantEqual(t, Expr, "for { a <- b; c = d; if e } f", "for {\n a <- b\n c = d\n if e\n} f", "for (a <- b; c = d if e) f")
}

// The examples of the chapter.
func TestExamples(t *testing.T) {
	wantTree(t, Parse, "val x = 1 + 2 * y", `(SUnit (SVal "x" (SMods) (SNone) (XInfix "+" (XInt 1) (XInfix "*" (XInt 2) (XName "y")))))`)
	wantTree(t, Expr, "if (a) b else c", `(XIf (XName "a") (XName "b") (XName "c"))`)
	wantTree(t, Expr, "f(x => x.y)(1)", `(XApply (XApply (XName "f") (XLambda (SLambdaParam "x" (SNone)) (XSelect "y" (XName "x")))) (XInt 1))`)
	wantTree(t, Parse, "def f = \n  g", `(SUnit (SDef "f" (SMods) (SNames) (SLists) (SNone) (XBlock (XName "g"))))`)
}

// P3.3: the trees of several texts, or the first fault.
func TestUnits(t *testing.T) {
	units, index, fault := Units([]string{"val a = b", "", "type C"})
	if len(units) != 3 || index != 0 || fault != (api.Fault{}) {
		t.Fatalf("%d trees, index %d, fault %v", len(units), index, fault)
	}
	for i, text := range []string{"val a = b", "", "type C"} {
		if n, _ := Parse(text); !sameTree(units[i], n) {
			t.Errorf("the tree of text %d is not that of Parse", i)
		}
	}
	for _, c := range []struct {
		texts []string
		index int
		fault api.Fault
	}{
		{nil, 0, api.Fault{}},
		{[]string{"a"}, 0, api.Fault{At: 0, Code: api.ErrSyntax}},
		{[]string{"val a", "val b; c", "'"}, 1, api.Fault{At: 7, Code: api.ErrSyntax}},
		{[]string{"val a", "type B", "val 'ab'"}, 2, api.Fault{At: 4, Code: api.ErrSyntax}},
		{[]string{"val a", "def f(a: A)(b: B)(c: C)(d: D)(e: E)"}, 1, api.Fault{At: 5, Code: api.ErrForm}},
	} {
		units, index, fault := Units(c.texts)
		if len(units) != 0 || index != c.index || fault != c.fault {
			t.Errorf("%q: %d trees, index %d, fault %v", c.texts, len(units), index, fault)
		}
	}
}

// R4: results are new memory.
func TestNewMemory(t *testing.T) {
	texts := []string{"val a = b", "val a = b"}
	units, _, _ := Units(texts)
	units[0].Kids[0].Kids[2].Text = "c"
	if units[1].Kids[0].Kids[2].Text != "b" || texts[0] != "val a = b" {
		t.Errorf("a tree shares memory with another one")
	}
}
