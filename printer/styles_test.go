package printer

import (
	"testing"

	"newel/api"
	"newel/parser"
	"newel/syntax"
)

// pair is a text in both styles.
type pair struct{ braces, indented string }

// units are printed in both styles as they stand here.
var units = []pair{
	{"", ""},
	{"val a = b\n", "val a = b\n"},
	{"class A {\n  def f(x: Int): Int = { x + 1 }\n}\n", "class A:\n  def f(x: Int): Int =\n    x + 1\n"},
	{"class A {}\nobject B\n", "class A {}\nobject B\n"},
	{"enum A {\n  case B\n  case C extends A\n}\n", "enum A:\n  case B\n  case C extends A\n"},
	{"extension (a: A) {\n  def b = c\n}\n", "extension (a: A):\n  def b = c\n"},
	{
		"class A {\n  object B {\n    def f = {\n      val a = { b }\n      c\n    }\n  }\n  val d = e\n}\nclass F\n",
		"class A:\n  object B:\n    def f =\n      val a =\n        b\n      c\n  val d = e\nclass F\n",
	},
	{
		"given A = { b }\ngiven c: D = {\n  e\n  f\n}\nlazy val g = {}\n",
		"given A =\n  b\ngiven c: D =\n  e\n  f\nlazy val g = {}\n",
	},
	{
		"val a = if (b) {\n  c\n  d\n} else if (e) f else { g }\n",
		"val a = if (b) then\n  c\n  d\nelse if (e) f else\n  g\n",
	},
	{
		"val a = while (b) {\n  c\n  d\n}\nval e = for {\n  f <- g\n  if h\n} do { i }\nval j = for { k <- l } yield m\n",
		"val a = while (b) do\n  c\n  d\nval e = for {\n  f <- g\n  if h\n} do\n  i\nval j = for { k <- l } yield m\n",
	},
	{
		"val a = b match {\n  case c => d\n  case e if f => {\n    g\n    h\n  }\n  case i => {}\n}\n",
		"val a = b match\n  case c => d\n  case e if f =>\n    g\n    h\n  case i => {}\n",
	},
	{
		"val a = try { b } catch {\n  case c => { d }\n} finally { e }\n",
		"val a = try\n  b\ncatch\n  case c =>\n    d\nfinally\n  e\n",
	},
	{
		"val a = b => {\n  c = { d }\n  throw { e }\n  return { f }\n  g += { h }\n}\n",
		"val a = b =>\n  c =\n    d\n  throw\n    e\n  return\n    f\n  g += { h }\n",
	},
	{
		"val a = new A {\n  def b = { c }\n}\nval d = (new A {\n  def e = { f }\n}).g\n",
		"val a = new A:\n  def b =\n    c\nval d = (new A {\n  def e = { f }\n}).g\n",
	},
	{
		"type A = B match {\n  case C => D\n  case E => F\n}\nval a: B match {\n  case C => D\n} = e\n",
		"type A = B match\n  case C => D\n  case E => F\nval a: B match {\n  case C => D\n} = e\n",
	},
	{
		"val a = f(b => {\n  c\n  d\n}, 1).g {\n  h\n  i\n}\n",
		"val a = f(b => {\n  c\n  d\n}, 1).g {\n  h\n  i\n}\n",
	},
	{
		"val a = '{\n  b\n  ${ c }\n}\nval d = s\"$e ${{ f; g }}\"\n",
		"val a = '{\n  b\n  ${ c }\n}\nval d = s\"$e ${{ f; g }}\"\n",
	},
	{
		"val a = (b match {\n  case c => d\n}) + 1\nval e = f match {\n  case g => h\n} match {\n  case i => j\n}\n",
		"val a = (b match {\n  case c => d\n}) + 1\nval e = f match {\n  case g => h\n} match\n  case i => j\n",
	},
	// what would go on in the next line
	{
		"import a.*;\nimport b\nclass A {\n  def +;\n  val a: b.type;\n  val c = d.+;\n  import e.*\n}\nval f = g\n",
		"import a.*;\nimport b\nclass A:\n  def +;\n  val a: b.type;\n  val c = d.+;\n  import e.*\n;\nval f = g\n",
	},
	{
		"def a = {\n  b.+;\n  def c = { d.- }\n  e\n}\ndef f = { g.* }\nval h = i\n",
		"def a =\n  b.+;\n  def c =\n    d.-\n  ;\n  e\ndef f =\n  g.*\n;\nval h = i\n",
	},
	{
		"type A = B match {\n  case C => d.type;\n  case E => f.type\n}\nval g = h\n",
		"type A = B match\n  case C => d.type;\n  case E => f.type\n;\nval g = h\n",
	},
	{
		"def a = {\n  return;\n  b\n}\ndef c = d match {\n  case e => return;\n  case f => g\n}\ndef h = { return }\nval i = j\n",
		"def a =\n  return\n  b\ndef c = d match\n  case e => return\n  case f => g\ndef h =\n  return\nval i = j\n",
	},
	{
		"val a = {\n  {\n    -b\n    c\n  }\n  (d, e) => f\n}\n",
		"val a =\n  {\n    -b\n    c\n  }\n  (d, e) => f\n",
	},
}

// P4.1, P4.2: units in both styles.
func TestUnits(t *testing.T) {
	for _, u := range units {
		for style, want := range []string{u.braces, u.indented} {
			n := parsed(t, parser.Parse, u.braces)
			if got, e := Print(n, style); got != want || e != api.OK {
				t.Errorf("style %d, error %d:\n%s\nwant\n%s", style, e, got, want)
			}
			for _, text := range []string{u.braces, u.indented} {
				if got, fault := Format(text, style); got != want || fault != (api.Fault{}) {
					t.Errorf("Format of\n%s\nstyle %d, fault %v:\n%s\nwant\n%s", text, style, fault, got, want)
				}
			}
			wantText(t, n, style, want)
		}
	}
}

// P4.1: expressions, types and patterns as roots. A text in one line need not
// end with a line feed.
func TestOtherRoots(t *testing.T) {
	for _, c := range []struct {
		parse func(string) (syntax.Node, api.Fault)
		text  string
		pair
	}{
		{parser.Expr, "1+2", pair{"1 + 2", "1 + 2"}},
		{parser.Expr, "{a;b}", pair{"{\n  a\n  b\n}\n", "{\n  a\n  b\n}\n"}},
		{parser.Expr, "if(a){b;c}", pair{"if (a) {\n  b\n  c\n}\n", "if (a) then\n  b\n  c\n"}},
		{parser.Expr, "f(if(a){b;c})", pair{"f(if (a) {\n  b\n  c\n})\n", "f(if (a) {\n  b\n  c\n})\n"}},
		{parser.Type, "A match{case B=>C}", pair{"A match {\n  case B => C\n}\n", "A match\n  case B => C\n"}},
		{parser.Type, "F[A match{case B=>C}]", pair{"F[A match {\n  case B => C\n}]\n", "F[A match {\n  case B => C\n}]\n"}},
		{parser.Pattern, "P(1|2)", pair{"P(1 | 2)", "P(1 | 2)"}},
	} {
		n := parsed(t, c.parse, c.text)
		for style, want := range []string{c.braces, c.indented} {
			if got, e := Print(n, style); got != want || e != api.OK {
				t.Errorf("%s, style %d, error %d:\n%s\nwant\n%s", c.text, style, e, got, want)
			}
		}
	}
}

// P4.4: formatting again and in another style, and equal trees.
func TestFormatAgain(t *testing.T) {
	m := &maker{dice: 5}
	for range 600 {
		n := m.tree("SUnit", 2+m.roll(5))
		var texts [Styles]string
		for style := range Styles {
			text, e := Print(n, style)
			if e != api.OK {
				t.Fatalf("error %d for %.2000s", e, form(n))
			}
			texts[style] = text
		}
		for _, text := range texts {
			for style, want := range texts {
				if got, fault := Format(text, style); got != want || fault != (api.Fault{}) {
					t.Fatalf("Format of\n%s\nstyle %d, fault %v:\n%s\nwant\n%s", text, style, fault, got, want)
				}
				if other, _ := Print(parsed(t, parser.Parse, text), style); other != want {
					t.Fatalf("equal trees have the texts\n%s\nand\n%s", other, want)
				}
			}
		}
	}
}

// P4.2: the errors of Format, in their order.
func TestFormatFaults(t *testing.T) {
	for _, c := range []struct {
		text  string
		style int
		want  api.Fault
	}{
		{"val", -1, api.Fault{Code: api.ErrRange}},
		{"val a = b", Styles, api.Fault{Code: api.ErrRange}},
		{"val a = ", Braces, api.Fault{At: 7, Code: api.ErrSyntax}},
		{"val a = 'ab'", Indented, api.Fault{At: 8, Code: api.ErrSyntax}},
		{"1 + 2", Braces, api.Fault{At: 0, Code: api.ErrSyntax}},
		{"val a; def f(a: A)(b: B)(c: C)(d: D)(e: E)", Braces, api.Fault{At: 12, Code: api.ErrForm}},
	} {
		if text, fault := Format(c.text, c.style); text != "" || fault != c.want {
			t.Errorf("Format(%q, %d) = %q, %v; want %v", c.text, c.style, text, fault, c.want)
		}
	}
}
