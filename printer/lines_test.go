package printer

import (
	"strings"
	"testing"

	"newel/api"
	"newel/parser"
	"newel/syntax"
)

// wantLine checks the line of the tree of a text.
func wantLine(t *testing.T, parse func(string) (syntax.Node, api.Fault), text, want string) {
	t.Helper()
	n := parsed(t, parse, text)
	if got, e := Line(n); got != want || e != api.OK {
		t.Errorf("%s\n is printed as %s, error %d\nwant %s", text, got, e, want)
	}
}

// P4.3: expressions of all kinds, which are printed as they stand here.
func TestLinesOfExpressions(t *testing.T) {
	for _, text := range []string{
		"a", "1", "5L", "'a'", `'\x7b'`, `'\''`, `"a\n\"\\\x00'$"`, "true", "false", "null", "()", "this",
		"2147483647", "9223372036854775807L",
		"a.b", "a.b.c", "a.+", "1.a", "().a", "this.a", "super.a", "super[A].a", "super.+", "{ a }.b", "(new A).b", "(new A).+",
		"f()", "f(a, b)", "f(using a)", "f(using)", "f(a, b = c)", "f(a)(b)", "f { a; b }", "f {}", "f(using { a })", "f({ a }, b)", "f { a } { b }",
		"f((a = b))", "f(a.b = c)", "f(a += b)", "f(x => x)", "f[A]", "f[A, B => C][D]", "f[A](b)", "(new A)(b)", "a.+(b)",
		"a + b", "a + b * c", "(a + b) * c", "a + (b + c)", "a + b + c", "a :: b :: c", "(a :: b) :: c", "(a + b) +: c", "a +: (b + c)",
		"a + (b +: c)", "(a +: b) + c", "a || b && c == d < e :: f + g * h ~~ i", "a ^ b & c | d", "a.+ + b", "-a + !b", "a + -b", "~(a + b)",
		"-(-a)", "-1", "(-1).a", "-1.a", "-a(b)", "-new A", "new A + b", "-{ a }",
		"a = b", "a += b", "a = b = c", "(a = b) = c", "a :: b ::= c", "a match { case b => c } = d", "a.+ = b",
		`s""`, `s"a"`, `s"$a"`, `s"a$b c$this.d"`, `s"${a}b${this}_${a}1 $a"`, `s"${a + b}\$\"\n"`, `s"${{ a }}${"b"}"`, `f"${s"$a"}"`,
		"if (a) b", "if (a) b else c", "if (a) { b } else { c; d }", "if (a) b else if (c) d else e", "if (a) (if (b) c) else d",
		"if (a) if (b) c else d else e", "if (a) x => if (b) c else d", "if (a) (x => if (b) c) else d", "if ((a, b) => c) d", "if (a) {} else {}",
		"if (a) b = c else d = e", "if (a) return else b", "if (a) (while (b) if (c) d) else e", "if (a) throw b else c",
		"while (a) b", "while (a) { b; c }", "while (a) -b",
		"for { a <- b } do c", "for { a <- b } yield { c }", "for { a <- b; if c; d = e; F(g) <- h } yield i", "for { 1 | 2 <- a } do {}",
		"a match { case b => c }", "a match { case b => c; case _ => d }", "a match { case b if c => { d; e } }", "a match { case b => {} }",
		"a match { case b => c } match { case d => e }", "(a match { case b => c }) + d", "a match { case b if (c => d) => e; case f if g + h => i }",
		"a match { case b if (if (c) d) => return; case e => return f }", "(a = b) match { case c => d }", "a + b match { case c => d }",
		"a match { case b if (c match { case d => e }) => { f } + g }",
		"try a", "try { a } catch { case b => c }", "try a finally b", "try a catch { case b: C => d; case e => { f } } finally { g }",
		"try (try a) catch { case b => c }", "try (if (a) try b) finally c", "try try a catch { case b => c } catch { case d => e }",
		"try (try a catch { case b => c }) finally d", "try try a finally b finally c",
		"throw a", "throw { a }", "return", "return a", "return { a }", "{ return; a }", "(return) + a",
		"a => b", "_ => a", "() => a", "(a: A) => b", "(a, _: B | C) => d", "(a: (A => B)) => c", "a => b => c", "a => b = c", "(a => b)(c)", "(a => b) + c",
		"{}", "{ a }", "{ a; b }", "{ { a } }", "{ val a = b; c }", "{ x => a; b }", "{ import a.*; b; def +; def f: a.type; c }", "{ class A {}; {} }",
		"new A", "new A(b)", "new A()", "new A(b = c) with B[C] with (D & E)", "new A { def f = a; b }", "new A {}", "new a.B", "new this.type",
		"(a: A)", "(a.+ : A)", "((a => b): C => D)", "((a: A): B)", "(a match { case b => c }: D)", "f((a: A))",
		"'{ a }", "'{ a; b }", "'{}", "${ a }", "'{ ${ a } + b }",
	} {
		wantLine(t, parser.Expr, text, text)
	}
}

// P4.3: what is written in another way than it was.
func TestLinesOfOtherTexts(t *testing.T) {
	for text, want := range map[string]string{
		"((a))":                                "a",
		"(a * b) + c":                          "a * b + c",
		"a + (b * c)":                          "a + b * c",
		"a :: (b :: c)":                        "a :: b :: c",
		"(a.b).c":                              "a.b.c",
		"- - a":                                "-(-a)",
		"f({ a })":                             "f { a }",
		"if a then b else c":                   "if (a) b else c",
		"if a then\n  b\nelse\n  c":            "if (a) { b } else { c }",
		"while a do\n  b":                      "while (a) { b }",
		"for (a <- b if c) d":                  "for { a <- b; if c } do d",
		"for a <- b yield c":                   "for { a <- b } yield c",
		"try a catch case b => c":              "try a catch { case b => c }",
		"a match\n  case b =>\n    c\n    d":   "a match { case b => { c; d } }",
		"a match { case b => c; d case e => }": "a match { case b => { c; d }; case e => {} }",
		"(a) => b":                             "a => b",
		"new A with B: \n  c":                  "new A with B { c }",
		"s\"${a}\"":                            `s"$a"`,
		"s\"$a\\x62\"":                         `s"${a}b"`,
		"{\n a.+;\n b\n}":                      "{ a.+; b }",
		"{ enum A { case B, C } }":             "{ enum A { case B; case C } }",
		"new A.+":                              "(new A).+",
	} {
		wantLine(t, parser.Expr, text, want)
	}
}

// P4.3: types of all kinds.
func TestLinesOfTypes(t *testing.T) {
	for _, text := range []string{
		"A", "a.B", "a.b.C", "this.A", "this.a.B", "a.type", "a.b.type", "this.type",
		"A[B]", "A[B, C => D]", "A[B][C]", "(A & B)[C]", "A[_]", "A[_ >: B <: C, _ <: D]", "a.B[this.type]",
		"A => B", "() => A", "(A, B) => C", "A => B => C", "(A => B) => C", "A | B => C", "(A | B) & C => D", "((A, B) => C) => D",
		"A & B", "A & B & C", "A & (B & C)", "A | B", "A | B | C", "A | (B | C)", "A & B | C & D", "(A | B) & (C | D)", "(A => B) | C",
		"[A] =>> B", "[+A, -B[_, _] >: C <: D] =>> A[B]", "([A] =>> B)[C]", "[A] =>> A => B",
		"A match { case B => C }", "A | B match { case C => D; case E | F => G => H }", "(A => B) match { case (C => D) => E }", "A => B match { case C => D }",
		"A match { case B => a.type; case C => D }",
	} {
		wantLine(t, parser.Type, text, text)
	}
	wantLine(t, parser.Type, "((A)) => (B)", "A => B")
	wantLine(t, parser.Type, "A match\n  case B => C\n  case D => E", "A match { case B => C; case D => E }")
}

// P4.3: patterns of all kinds.
func TestLinesOfPatterns(t *testing.T) {
	for _, text := range []string{
		"_", "a", "_a", "A", "a.b", "a.B.c", "A()", "A(b, _, C)", "a(b)", "a.b(c)",
		"1", "-1", "2L", "-2L", "'a'", `"a"`, "true", "false", "null", "()",
		"a: A", "_: A", "a: A | B & C", "_: (A => B)", "_: A[_]", "a @ A", "A @ _", "a @ (b: B)", "a @ (1 | 2)", "a @ -1",
		"1 | 2", "A | b | _", "(a: A) | (_: B)", "a @ (b: B) | 1", "a @ (1 | 2) | 3", "A(1 | 2, b: C)",
	} {
		wantLine(t, parser.Pattern, text, text)
	}
	wantLine(t, parser.Pattern, "a @ _", "a")
	wantLine(t, parser.Pattern, "(a)", "a")
	wantLine(t, parser.Pattern, "_: A | B", "_: A | B")
}

// P4.3: definitions, as statements of a block.
func TestLinesOfDefinitions(t *testing.T) {
	for _, text := range []string{
		"import a", "import a.b.C", "import a.*",
		"class A", "trait A", "object A", "case class A(b: B)", "case object A", "enum A {}", "class A {}", "trait A[B](c: C)(d: D) {}",
		"class A[+B, -C[_], D >: E <: F] extends G", "class A extends B[C](d) with e.F with (G & H) { a; def f }", "object A extends B {}",
		"enum A[B](c: C) extends D { case E; case F[G](h: H) extends I(j) with K; def l = m; n }", "enum A { case B; case class C }",
		"override private final sealed abstract volatile inline class A", "private val a = b", "override def a", "sealed trait A",
		"class A(b: B, c: => C, d: D*, val e: E, var f: F, private val g: G = h)(using i: I)(using)()", "class A(val b: B* = c)",
		"def a", "def a: A", "def a = b", "def a(b: B): C = d", "def +", "def + : A", "def + = b", "def +[A](b: B): C", "def :: : a.type = b", "def a: A => B = c",
		"val a", "val a: A", "val a = b", "val a: A = b", "var a = b", "lazy val a = b", "val a: A match { case B => C } = d",
		"type A", "type A >: B <: C", "type A <: B", "type A[B] = C", "type A = B => C", "private type A >: a.type", "type A = B match { case C => D }",
		"given A = b", "given A[B] = c", "given a: A = b", "given a[B]: C = d", "given a(using b: B): C = { d }", "given (A, B) => C = d", "given a[B](c: C): D = e",
		"extension (a: A) { def b }", "extension [A](b: B[A]) { override def c(d: D): E = f; def + }", "extension (a: A) { def b = { c } }",
	} {
		text = "{ " + text + "; a }"
		wantLine(t, parser.Expr, text, text)
	}
	wantLine(t, parser.Expr, "{ inline abstract final class A; extension (a: A) def b; enum B { case C, D } }",
		"{ final abstract inline class A; extension (a: A) { def b }; enum B { case C; case D } }")
}

// P4.3: what is written in several lines by Print is one line.
func TestNoLineFeeds(t *testing.T) {
	text := strings.Repeat("{ class A { def f = { a; b match { case c => { d; e } } } }; ", 5) + "a" + strings.Repeat(" }", 5)
	wantLine(t, parser.Expr, text, text)
}
