package parser

import (
	"strings"
	"testing"

	"newel/api"
	"newel/syntax"
	"newel/tokens"
)

// marked divides a text at the sign @@, which stands in front of the token of a
// fault; at the end it means the Stop.
func marked(t *testing.T, text string) (string, int) {
	t.Helper()
	front, back, found := strings.Cut(text, "@@")
	if !found || strings.Contains(back, "@@") {
		t.Fatalf("%q has not one mark", text)
	}
	if back != "" {
		return front + back, len(front)
	}
	l, fault := tokens.Scan(front)
	if fault != (api.Fault{}) {
		t.Fatalf("%q: fault %v", front, fault)
	}
	return front, l[len(l)-1].At
}

func wantFaults(t *testing.T, parse func(string) (syntax.Node, api.Fault), list []string) {
	t.Helper()
	for _, c := range list {
		text, at := marked(t, c)
		wantFault(t, parse, text, at, api.ErrSyntax)
	}
}

// P3.1: the token at which no rule of definitions goes on.
func TestFaultsOfDefinitions(t *testing.T) {
	wantFaults(t, Parse, []string{
		"@@a", "@@1 + 2", "@@{ }", "@@if (a) b", "@@=", "@@with", "@@.", "@@_",
		"val a = 1 @@val b = 2", "val a @@b", "def f @@,", "type A; @@b", "; @@a",
	})
}

func TestFaultsOfImportsAndModifiers(t *testing.T) {
	wantFaults(t, Parse, []string{
		"import @@", "import @@*", "import a.@@", "import a.@@+", "import a.*@@.b", "import a @@b", "import @@type", "import a.@@type", "import a.*\n@@val b", "import a@@, b",
		"private @@import a", "private @@", "private @@private val a", "private final @@private val a", "private @@a", "private @@extension (a: A) def f", "final @@this", "final @@with",
	})
}

func TestFaultsOfClasses(t *testing.T) {
	wantFaults(t, Parse, []string{
		"class @@", "class @@+", "class A @@b", "class A[@@]", "class A(a@@)", "class A(a: @@)", "class A @@with B", "class A(a: A)@@[B]",
		"class A { } @@{ }", "class A: @@b", "class A:\n@@val b = c", "class A:@@", "class A\n@@{ }", "class A @@= b",
		"case @@A", "case @@trait A", "case @@enum A", "case @@final class A", "case @@",
		"object A@@[B]", "object A@@(b: B)", "object @@+", "trait @@{ }", "trait A(a: B @@c)",
		"enum A@@", "enum A @@b", "enum A: @@case B", "enum A extends B@@", "enum @@",
		// parents
		"class A extends @@", "class A extends @@{ }", "class A extends B @@C", "class A extends B, @@{ }", "class A extends B with @@with C", "class A extends B @@| C",
		"class A extends B(@@using c)", "class A extends B(c)@@(d)", "class A extends B(c = @@)", "class A extends B(c, @@)", "class A extends B @@extends C", "class A extends (B@@, C)",
		"class A extends B.@@+", "class A extends B.c.@@+ { }", "class A extends this.B.@@::", "object A extends B with C.@@*", "enum A { case B extends C.@@+ }", "class A extends @@new B.+",
		// body
		"class A { b @@c }", "class A { @@, }", "class A { case @@}", "class A { case @@B }", "class A { b; @@else }", "class A:\n  b @@c", "class A { private @@}",
		// enumcases
		"enum A { case @@}", "enum A { case @@+ }", "enum A { case B@@: C }", "enum A { case B, @@}", "enum A { case B, C@@(d: D) }", "enum A { case B, C @@extends D }", "enum A { case B, @@case }",
		"enum A { case B(c: C)@@, D }", "enum A { case B[C]@@, D }", "enum A { case B @@case C }", "enum A { private case @@B }", "enum A { class B { case @@C } }", "enum A { def f = { case @@B } }",
		"enum A { case B @@{ } }",
	})
}

func TestFaultsOfMembers(t *testing.T) {
	wantFaults(t, Parse, []string{
		// def
		"def @@", "def @@(a: A)", "def @@= b", "def f@@.g", "def f(a: A)@@[B]", "def f: @@= a", "def f = @@", "def f = a @@b", "def f(using @@, a: A)", "def f: A @@b",
		"def f(a: A, @@)", "def f(a@@)", "def f(@@1: A)", "def f(a: A* @@- b)", "def f(a: => A@@*)", "def f(a: A = @@)", "def f(val @@var a: A)", "def f(a: A*@@[B])",
		"def f(val @@private a: A)", "def f(a: A @@using b: B)", "def f(@@_: A)", "def f[@@_]", "def f[A @@B]", "def f(a: @@*)", "def f(private @@private a: A)", "def f(@@lazy val a: A)",
		"def f(a: A @@; b: B)", "def f\n@@(a: A)",
		// val
		"val @@", "val @@+", "val @@(a, b) = c", "val a: @@= b", "val a = @@", "lazy @@var a", "lazy @@private val a", "lazy @@a", "var @@1", "val a@@, b", "val a @@+= b", "val a:\n  @@B", "val a = b @@: B",
		// type
		"type @@", "type A @@B", "type A = @@", "type A <: B @@>: C", "type A <: B @@= C", "type A >: B @@= C", "type A >: B <: C @@<: D", "type A = B @@= C", "type A[B @@C]", "type A@@(b: B)", "type @@+",
		"type A[+@@]", "type A[+ @@- B]", "type A[@@* B]", "type A[B[@@]]", "type A[B[@@C]]", "type A[B[_ @@_]]", "type A[B <: C @@>: D]", "type A[B @@= C]", "type A =\n  @@B",
	})
}

func TestFaultsOfGivensAndExtensions(t *testing.T) {
	wantFaults(t, Parse, []string{
		"given @@", "given @@= a", "given A @@b", "given a: @@= b", "given A@@", "given a: A@@", "given a(b: B) @@= c", "given a(b@@)", "given A[B] @@c", "given a[B]: @@= c", "given a[@@_]: B = c", "given A[_ @@b] = c",
		"given a@@, b", "given a.b@@(c: C): D = e", "given a: A = @@", "given @@+ = a", "given A = a @@b", "given (A)@@: B = c", "given a[A](b: B) @@= c",
		"extension @@a", "extension (@@) def f", "extension (a: A@@, b: B) def f", "extension (a: A)@@(b: B) def f", "extension (a: A) @@val b", "extension (a: A) { @@}", "extension (a: A) {; @@}",
		"extension (a: A) { @@val b = c }", "extension (a: A): @@def f", "extension (a: A)\n@@def f", "extension (a: A) private @@class B", "extension (a: A) def f @@def g",
		"extension (a: A) { def f @@def g }", "extension (a: A) @@", "extension[@@](a: A) def f", "extension (a: A) { def f; @@a }", "extension (@@using a: A) def f", "extension @@def f",
	})
}

// P3.2: the token at which no rule of types goes on.
func TestFaultsOfTypes(t *testing.T) {
	wantFaults(t, Type, []string{
		"@@", "@@1", "@@_", "@@+", "@@=> A", "@@{ }", "@@'{ }", "@@super.A", "A @@B", "A => @@", "A => @@=> B", "A | @@", "A & @@| B", "A | @@| B", "A @@+ B", "A @@*", "A @@: B",
		"(@@)", "(A@@, B)", "(@@, A)", "(A, @@) => B", "(A @@B) => C", "() => @@", "(A)@@(B)", "(A) @@B",
		"[@@] =>> A", "[A] @@=> B", "[A]@@", "[A] =>> @@", "[@@_] =>> A", "[A @@B] =>> C",
		"A[@@]", "A[B @@C]", "A[_ @@B]", "A[_ >: @@]", "A[_ <: B @@>: C]", "A[_@@[_]]", "A[@@+ B]", "A[B, @@]",
		"a.@@", "a.@@+", "a.@@this", "a.b.@@1", "a.type@@.b", "this@@", "this@@[A]", "this.@@this", "this.@@", "this.type@@.A",
		"A match @@", "A match @@B", "A match { @@}", "A match { @@B => C }", "A match { case @@=> B }", "A match { case B @@}", "A match { case B => @@}", "A match { case @@_ => B }",
		"A match { case B => C @@case D => E }", "A match { case B => C; @@D }", "A match { case B => C } @@match { case D => E }", "A match { case (B) => @@}", "A match { case @@[B] =>> C => D }",
		"A match { case B => C } @@=> D", "A => B @@=>> C", "A; @@B", ";; A ; @@A",
	})
}

// P3.2: the token at which no rule of patterns goes on.
func TestFaultsOfPatterns(t *testing.T) {
	wantFaults(t, Pattern, []string{
		"@@", "@@=> a", "@@+ 1", "@@*", "@@this", "@@[A]", "@@{ }", "@@!1", "@@new A", "@@super.a", `@@s"a"`, "@@| a",
		"a @@b", "a | @@", "a | @@| b", "_ @@a", "_ @@@ a", "a.b @@@ c", "a.b@@: C", "a @ @@", "a @ @@= b", "a; @@b", "a @@if b",
		"a: @@", "a: A @@=> B", "_: @@", "a: @@[B] =>> C", "a: A | @@1", "1@@: A", "- @@a", "- @@", "- @@- 1", "-@@'a'", "-@@(1)",
		"(a@@, b)", "(a @@b)", "(@@| a)", "()@@: A", "A(@@, a)", "A(a @@b)", "A(a, @@)", "A(a)@@(b)", "A(a)@@.b", "A(a)@@: B", "A@@[B](c)", "a.@@", "a.@@+", "a.@@type", "a.@@(b)",
		"_@@.a", "_@@(a)", "1 | @@", "null@@.a", `"a"@@(b)`, "1 @@L",
	})
}

// P3.2: the token at which no rule of expressions goes on.
func TestFaultsOfExpressions(t *testing.T) {
	wantFaults(t, Expr, []string{
		"@@", "@@=", "@@* a", "@@.a", "@@=> a", "@@:", "@@<- b", "@@case", "@@val a", "@@def f", "@@type A", "@@then", "@@yield a", "@@class A", "@@import a", "@@, a", "@@@",
		"a @@b", "a @@1", "a @@: A", "a =>> @@", "a @@<- b", "a@@, b", "a; @@b", "a @@then", "a @@with b", "a @@if b", "a + b @@=> c",
		// block
		"{ a @@b }", "{ @@, }", "{ a; @@, }", "{ a @@, b }", "{ case @@a => b }", "{ val @@}", "{ a; @@else }", "{ private @@}", "{ lazy @@a }", "{ @@yield a }",
		// lambda
		"a => @@", "(a, b) => @@", "(@@1) => a", "(a @@b) => c", "(a, @@) => b", "(a: @@) => b", "(@@(a)) => b", "(a@@.b) => c", "(a: A @@=> B) => c", "(@@+ a) => b", "a.b @@=> c", "() => @@",
		"@@_", "@@_ + a", "f(@@_)", "@@_.a", "(@@_)", "(a: A@@, b)", "(a@@, b)", "(@@val a) => b",
		// assign
		"a = @@", "a += @@", "a <= @@", "a = b @@: c", "a + @@= b", "-a = b @@c", "(a: @@)", "a = @@= b",
	})
}

func TestFaultsOfControl(t *testing.T) {
	wantFaults(t, Expr, []string{
		"if @@", "if (@@, a) b", "if (a@@, b) c", "if (a) @@", "if (a) then @@", "if (a)@@.b then c", "if (a) @@== b then c", "if (a)\n@@b", "if a @@b", "if a @@else b",
		"if a then @@else b", "if a then b else @@", "if a @@do b", "if a then b @@then c", "(if (a) b@@; c)", "if (a) b else c @@else d", "if (a) b; @@c",
		"while @@", "while (a) @@", "while a @@b", "while a @@then b", "while (a) @@then b", "while a do @@", "while (a)\n@@b", "while (a @@b) c", "while (a)@@.b do c",
		"for @@", "for (@@) a", "for { @@} a", "for (a @@= b) c", "for (a <- @@) b", "for (a <- b @@c <- d) e", "for (a <- b; 1 @@+ c) d", "for (a <- b; c@@) d", "for (a <- b) @@", "for (a <- b @@, c <- d) e",
		"for (a <- b)\n@@c", "for (a <- b) @@then c", "for a <- b @@c", "for a <- b @@", "for a <- b; @@", "for a <- b { c } @@", "for (@@if a) b", "for (a <- b if @@) c", "for (a <- b) yield @@", "for a <- b do @@",
		"for (a) <- b @@c", "for { a <- b }@@.c", "for (a@@) b", "for (a @@=> b) c",
		"try @@", "try @@catch { case a => b }", "try a catch @@", "try a catch @@b", "try a catch { @@}", "try a catch { @@b }", "try a finally @@", "try a finally b @@catch { case c => d }",
		"try a catch { case b => c } @@catch { case d => e }", "try a finally b @@finally c", "try a catch case b @@c", "try a catch @@(b)",
		"throw @@", "throw @@;", "return @@* a", "return a @@b", "return @@=> a", "return @@val a", "return @@_", "return@@.a", "(try a@@; b)",
	})
}

func TestFaultsOfCases(t *testing.T) {
	wantFaults(t, Expr, []string{
		"a match @@", "a match @@b", "a match @@case b => c", "a match { @@}", "a match { @@b => c }", "a match { case @@}", "a match { case b @@}", "a match { case b @@c => d }", "a match { case b if @@=> c }",
		"a match { case b if c @@}", "a match { case b if c @@; => d }", "a match { case b => c @@d }", "a match { case b => @@, }", "a match { case b => c; @@, }", "a match { case b => @@; c }",
		"a match { case b => { c }; @@d }", "a match { case b => { c } @@d }", "a match { case b => c += @@}", "a match { case b => c; case @@class D }", "a match { case b => case @@class D }",
		"a match { case b => c } @@+ d", "a match { case b => c }@@.d", "a match { case b => c } @@{ d }", "@@match { case a => b }", "a match { case (b @@c) => d }", "a match { case _ if @@_ => b }",
		"a match { case b if (c@@, d) => e }", "a match { case b: C => D @@: E }", "a match {\n  case b =>\n  c\n  case @@d => e\n}", "a match { case b => {\n  c\n}\n@@d }",
	})
}

func TestFaultsOfOperands(t *testing.T) {
	wantFaults(t, Expr, []string{
		"a + @@", "(a + @@)", "a + @@* b", "a * @@/ b", "- @@", "- @@* a", "! @@=", "a + @@if b then c", "a + @@throw b", "1 @@2", "a + @@val b", "@@++ a", "@@** a", "a @@'{ }",
		"a + b @@+: c", "a +: b @@+ c", "a + b * c @@+: d", "a +: b * c @@+ d", "a +: b +: c @@- d", "a - b + c @@-: d", "a :: b @@:+ c", "a * b @@*: c + d", "a + (b +: c) @@+: d", "a +: (b) @@- (c)",
		"a == b && c == d @@!=: e", "a ~: b @@? c",
		// simple
		"a.@@", "a.@@1", "a.@@(b)", "a.@@this", "a.@@type", "a.@@match { case b => c }", "a[@@]", "a[@@_]", "a[A @@B]", "a[A, @@]", "a[@@1]", "a[A@@; B]",
		"a(@@, b)", "a(b @@c)", "a(b, @@)", "a(b@@; c)", "a(@@val b)", "a(using @@, b)", "a(b, @@using c)", "a(b = @@)", "a(b = c @@: d)", "a(b@@: B)", "a(@@* b)", "a(b *@@)", "a(@@= b)", "a\n@@(b)", "a\n@@{ b }", "a { b @@c }",
		// atom
		"(@@:)", "(a @@b)", "(a: A @@b)", "(a: @@)", "(a@@; b)", "(@@; a)", "super@@", "super@@(a)", "super[@@]", "super[@@this].a", "super[A@@, B].a", "super[A]@@", "super.@@", "super.@@this",
		"new @@", "new @@{ }", "new @@1", "new A @@B", "new A with @@", "new A@@, B", "new A(b @@c)", "new A @@: b", "new A { b @@c }", "new A(@@using b)",
		"new A.@@", "new A.@@1", "new A.@@=", "new A.@@(b)", "new A.@@this", "new A.b.@@", "new A.b.@@[B]", "new A with B.@@", "new A.+.@@", "new A.+ @@with B", "new A.+ @@b", "new A. @@{ }", "new A.type.@@",
		"new this.@@+", "new this@@", "new @@+", "new (A.@@+)", "new A[B.@@+]", "new A with @@+", "new A.type.@@1", "(new A: B.@@+)", "a[A.@@+]", "(a: A) => (b: B.@@+)", "(a: A.@@+) => b",
		"'{ a @@b }", "'{ @@, }", "${ a @@b }",
		`s"a${@@}"`, `s"a${b @@c}"`, `s"a${b@@; c}"`, `s"a$@@if"`, `s"a${ @@val b }"`, `s"$@@null"`, `s"a" @@b`,
	})
}

// P3.1: the fault of the tokens is ahead of all others, wherever it is, and
// that of the tree behind.
func TestFaultsInOrder(t *testing.T) {
	wantFault(t, Parse, "a b 'ab'", 4, api.ErrSyntax)
	wantFault(t, Parse, "val 1; 2147483648", 7, api.ErrRange)
	wantFault(t, Expr, "a b (", 4, api.ErrSyntax)
	wantFault(t, Expr, "a b "+strings.Repeat("(", 65), 68, api.ErrDepth)
	wantFault(t, Type, "1 "+strings.Repeat("a", 65), 2, api.ErrLimit)
	wantFault(t, Pattern, " = \x80", 3, api.ErrSyntax)
	wantFault(t, Parse, strings.Repeat(" ", api.MaxText+1), 0, api.ErrLimit)
	wantFault(t, Parse, "  a\n b", 5, api.ErrOrder)
	wantFault(t, Parse, "import a.b.c.d.e.f.g.h.i; val 1", 30, api.ErrSyntax)
	wantFault(t, Expr, strings.Repeat("- ", 70)+"=", 140, api.ErrSyntax)
	wantFault(t, Expr, "a(b = c, d) e", 12, api.ErrSyntax)
	// of two faults of the grammar, the first one
	wantFault(t, Parse, "val 1; val 2", 4, api.ErrSyntax)
	wantFault(t, Expr, "a 1 "+strings.Repeat("- ", 105)+"a", 2, api.ErrSyntax)
	wantFault(t, Expr, strings.Repeat("a => ", 105)+"1 2", 505, api.ErrDepth)
}

// P3.1: the faults of the tree, at its node.
func TestFaultsOfTrees(t *testing.T) {
	for _, c := range []struct {
		parse func(string) (syntax.Node, api.Fault)
		text  string // the node is behind the mark
		code  api.Errno
	}{
		{Parse, "type A; @@import a.b.c.d.e.f.g.h.i", api.ErrName},
		{Parse, "import a.b.c.d.e.f.g.h; @@import a.b.c.d.e.f.g.h.*", api.ErrName},
		{Pattern, "A(@@a.b.c.d.e.f.g.h.i)", api.ErrName},
		{Pattern, "A(@@a.b.c.d.e.f.g.h.i(b))", api.ErrName},
		{Pattern, "A(@@a @ b)", api.ErrForm},
		{Pattern, "A(@@a @ (b @ _))", api.ErrForm},
		{Pattern, "@@((a | b) | c)", api.ErrForm},
		{Pattern, "A(@@B | (a | b))", api.ErrForm},
		{Pattern, "A(@@(a | b) | B)", api.ErrForm},
		{Pattern, "A(@@(a @ b))", api.ErrForm},
		{Expr, "{ @@a(b = c, d) }", api.ErrForm},
		{Expr, "{ @@(a)(b = c, d) }", api.ErrForm},
		{Expr, "{ @@a(using b = c, d = e, f) }", api.ErrForm},
		{Parse, "def f@@(a: A)(b: B)(c: C)(d: D)(e: E)", api.ErrForm},
		{Expr, "b @@{" + strings.Repeat("a; ", 201) + "}", api.ErrForm},
		{Expr, "b + @@a(" + strings.Repeat("a, ", 200) + "a)", api.ErrForm},
		{Type, "A | @@B[" + strings.Repeat("C, ", 200) + "C]", api.ErrForm},
		{Parse, "@@" + strings.Repeat("type A; ", 201), api.ErrForm},
		{Expr, "@@b(" + strings.Repeat("a + ", 64) + "a)", api.ErrDepth},
		{Expr, "@@b + (" + strings.Repeat("a + ", 63) + "a)", api.ErrDepth},
		{Expr, "  @@" + strings.Repeat("- ", 64) + "a", api.ErrDepth},
		{Expr, "@@(((" + strings.Repeat("! ", 64) + "a)))", api.ErrDepth},
		{Type, "@@" + strings.Repeat("A => ", 64) + "A", api.ErrDepth},
		{Parse, "@@val a = b; def f = " + strings.Repeat("a => ", 62) + "a", api.ErrDepth},
		{Parse, "@@; def f = " + strings.Repeat("a => ", 62) + "a", api.ErrDepth},
	} {
		text, at := marked(t, c.text)
		wantFault(t, c.parse, text, at, c.code)
	}
}
