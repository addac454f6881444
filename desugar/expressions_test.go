package desugar

import "testing"

// The document's examples.
func TestExamples(t *testing.T) {
	wantExpr(t, `for { x <- xs; if x > 1 } yield x`, `xs.withFilter(x => x.>(1)).map(x => x)`)
	wantUnit(t, `enum Color { case Red, Green }`,
		`sealed abstract class Color; case object Red extends Color; case object Green extends Color`)
	wantExpr(t, `s"a$b"`, `"a".+(b)`)
	wantExpr(t, `1 :: l`, `{ val _1 = 1; l.::(_1) }`)
}

// P5.2: operators between operands.
func TestInfix(t *testing.T) {
	for _, c := range [][2]string{
		{`a && b`, `if (a) b else false`},
		{`a || b`, `if (a) true else b`},
		{`a != b`, `a.==(b).!`},
		{`a == b`, `a.==(b)`},
		{`a + b`, `a.+(b)`},
		{`a & b`, `a.&(b)`},
		{`a | b`, `a.|(b)`},
		{`a &&& b`, `a.&&&(b)`},
		{`a <= b`, `a.<=(b)`},
		{`a === b`, `a.===(b)`},
		{`a !== b`, `a = a.==(b).!`}, // an operator that assigns
		{`a + b * c - d`, `a.+(b.*(c)).-(d)`},
		{`a && b && c`, `if (if (a) b else false) c else false`},
		{`a && b || c != d`, `if (if (a) b else false) true else c.==(d).!`},
		{`a :: b`, `{ val _1 = a; b.::(_1) }`},
		{`a +: b`, `{ val _1 = a; b.+:(_1) }`},
		{`a :+ b`, `a.:+(b)`},
		{`a ?: b`, `{ val _1 = a; b.?:(_1) }`},
		{`f(a, b + c) :: g.h`, `{ val _1 = f(a, b.+(c)); g.h.::(_1) }`},
	} {
		wantExpr(t, c[0], c[1])
	}
	wantForm(t, `(XInfix "f" (XThis) (XNull))`, `(XApply (XSelect "f" (XThis)) (XNull))`)
	wantForm(t, `(XInfix ":" (XThis) (XNull))`,
		`(XBlock (SVal "_1" (SMods) (SNone) (XThis)) (XApply (XSelect ":" (XNull)) (XName "_1")))`)
	wantForm(t, `(XInfix "=" (XThis) (XNull))`, `(XApply (XSelect "=" (XThis)) (XNull))`)
}

// P5.2: the node first, then its kids: the fresh names are those of the outer
// operators first.
func TestFreshNamesOfOperators(t *testing.T) {
	wantExpr(t, `a :: b :: c`, `{ val _1 = a; { val _2 = b; c.::(_2) }.::(_1) }`)
	wantExpr(t, `(a :: b) :: c :: d`, `{ val _1 = { val _2 = a; b.::(_2) }; { val _3 = c; d.::(_3) }.::(_1) }`)
	wantExpr(t, `f(a :: b, _ => c :: d)`, `f({ val _1 = a; b.::(_1) }, _2 => { val _3 = c; d.::(_3) })`)
}

// P5.2: names that occur as any Text are no fresh names.
func TestTakenNames(t *testing.T) {
	for _, taken := range []string{
		`_1`, `this._1`, `"_1"`, `(_1: Int) => 1`, `x match { case _1 => 1 }`, `x match { case _1: Int => 1 }`,
		`{ val _1 = 1; 1 }`, `f(_1 = 1)`, `(x: _1)`, `x match { case _1() => 1 }`, `new A { def _1 = 1 }`,
	} {
		wantExpr(t, `f(`+taken+`, a :: b)`, `f(`+taken+`, { val _2 = a; b.::(_2) })`)
	}
	for _, free := range []string{
		`_01`, `"_1 "`, `__1`, `_1_`, `"1"`, `a1`, `x match { case _1.a() => 1 }`, `_11`, `_0`, `"_"`,
	} {
		wantExpr(t, `f(`+free+`, a :: b)`, `f(`+free+`, { val _1 = a; b.::(_1) })`)
	}
	wantExpr(t, `f(_2, _4, _1, a :: b, a :: b, a :: b)`,
		`f(_2, _4, _1, { val _3 = a; b.::(_3) }, { val _5 = a; b.::(_5) }, { val _6 = a; b.::(_6) })`)
	// Also a name that is taken away, and one that stands behind.
	wantForm(t, `(XApply (XInterp "s" (XString "_1")) (XInfix "::" (XThis) (XNull)) (XLambda (SLambdaParam "_2" (SNone)) (XTrue)))`,
		`(XApply (XString "_1") (XBlock (SVal "_3" (SMods) (SNone) (XThis)) (XApply (XSelect "::" (XNull)) (XName "_3"))) (XLambda (SLambdaParam "_2" (SNone)) (XTrue)))`)
}

// P5.2: operators in front of an operand.
func TestPrefix(t *testing.T) {
	wantExpr(t, `-a`, `a.-`)
	wantExpr(t, `!a`, `a.!`)
	wantExpr(t, `~a`, `a.~`)
	wantExpr(t, `+a`, `a.+`)
	wantExpr(t, `-1`, `1.-`)
	wantExpr(t, `-1L`, `1L.-`)
	wantExpr(t, `!(-a + b)`, `a.-.+(b).!`)
	wantExpr(t, `-(-1)`, `1.-.-`)
}

// P5.2: literals of patterns are as they were.
func TestPatternLiterals(t *testing.T) {
	text := `x match { case -1 => -1; case -2L | 3 => y; case P(-4, "_1", a @ -5L) if -6 > a => 1 }`
	want := `x match { case -1 => 1.-; case -2L | 3 => y; case P(-4, "_1", a @ -5L) if 6.-.>(a) => 1 }`
	wantExpr(t, text, want)
	wantExpr(t, `try x catch { case -1 => -1 }`, `try x catch { case -1 => 1.- }`)
	wantExpr(t, `for (-1 <- a) yield b`, `a.map(_1 => _1 match { case -1 => b })`)
}

// P5.2: what is assigned.
func TestAssign(t *testing.T) {
	for _, c := range [][2]string{
		{`a = b`, `a = b`},
		{`a.b = c`, `a.b = c`},
		{`a.b.c = d + e`, `a.b.c = d.+(e)`},
		{`this.a = b`, `this.a = b`},
		{`(a + b).c = d`, `(a.+(b)).c = d`},
		{`a += b`, `a = a.+(b)`},
		{`a.b *= c`, `a.b = a.b.*(c)`},
		{`a.b(c).d -= e`, `a.b(c).d = a.b(c).d.-(e)`},
		{`a &&= b`, `a = if (a) b else false`},
		{`a ||= b`, `a = if (a) true else b`},
		{`a <<= b`, `a = a.<<(b)`},
		{`a ::= b`, `a = { val _1 = a; b.::(_1) }`},
		{`a(b) = c`, `a.update(b, c)`},
		{`a() = b`, `a.update(b)`},
		{`a(b, c) = d`, `a.update(b, c, d)`},
		{`a.b(c) = d`, `a.b.update(c, d)`},
		{`a(b)(c) = d`, `a(b).update(c, d)`},
		{`a[T](b) = c`, `a[T].update(b, c)`},
		{`a(b) += c`, `a.update(b, a(b).+(c))`},
		{`a(b :: c) += d`, `a.update({ val _1 = b; c.::(_1) }, a({ val _2 = b; c.::(_2) }).+(d))`},
		{`a(b) ::= c`, `a.update(b, { val _1 = a(b); c.::(_1) })`},
		{`a(-b)(c) = -d`, `a(b.-).update(c, d.-)`},
		{`a(using b) = c`, `a.update(b, c)`},
	} {
		wantExpr(t, c[0], c[1])
	}
	wantForm(t, `(XAssign ":=" (XName "a") (XThis))`, `(XAssign "=" (XName "a") `+
		`(XBlock (SVal "_1" (SMods) (SNone) (XName "a")) (XApply (XSelect ":" (XThis)) (XName "_1"))))`)
}

// P5.2: interpolated strings.
func TestInterpolated(t *testing.T) {
	for _, c := range [][2]string{
		{`s""`, `""`},
		{`s"a"`, `"a"`},
		{`s"$a"`, `"".+(a)`},
		{`s"$a$b"`, `"".+(a).+(b)`},
		{`s"a${b}c"`, `"a".+(b).+("c")`},
		{`s"${a}b"`, `"".+(a).+("b")`},
		{`s"a${b + 1}c${-d}"`, `"a".+(b.+(1)).+("c").+(d.-)`},
		{`s"a${s"b$c"}d"`, `"a".+("b".+(c)).+("d")`},
	} {
		wantExpr(t, c[0], c[1])
	}
	wantForm(t, `(XInterp "s" (XString) (XNull) (XString) (XThis) (XString "a"))`,
		`(XApply (XSelect "+" (XApply (XSelect "+" (XApply (XSelect "+" (XString)) (XNull))) (XThis))) (XString "a"))`)
}

// P5.2: what is left out becomes ().
func TestUnits(t *testing.T) {
	for _, c := range [][2]string{
		{`if (a) b`, `if (a) b else ()`},
		{`if (a) b else c`, `if (a) b else c`},
		{`return`, `return ()`},
		{`return -a`, `return a.-`},
		{`{}`, `{ () }`},
		{`{ a }`, `{ a }`},
		{`{ val a = b }`, `{ val a = b; () }`},
		{`{ a; import b.c }`, `{ a; import b.c; () }`},
		{`{ var a: Int = -1; import b.*; lazy val c = a; a = 2 }`, `{ var a: Int = 1.-; import b.*; lazy val c = a; a = 2 }`},
		{`{ {}; {} }`, `{ { () }; { () } }`},
		{`f {}`, `f({ () })`},
	} {
		wantExpr(t, c[0], c[1])
	}
	wantForm(t, form(exprOf(t, `if (!a) if (b) c else d`)),
		`(XIf (XSelect "!" (XName "a")) (XIf (XName "b") (XName "c") (XName "d")) (XUnit))`)
	wantExpr(t, `try { } finally { val a = 1 }`, `try { () } finally { val a = 1; () }`)
	wantExpr(t, `'{ a + b }`, `'{ a.+(b) }`)
	wantExpr(t, `'{ }`, `'{ () }`)
	wantExpr(t, `while (!a) {}`, `while (a.!) { () }`)
}

// P5.2: parameters without a name.
func TestLambdaParams(t *testing.T) {
	wantExpr(t, `_ => a`, `_1 => a`)
	wantExpr(t, `(_: Int, x, _) => a`, `(_1: Int, x, _2) => a`)
	wantExpr(t, `_ => _ => _1`, `_2 => _3 => _1`)
	wantExpr(t, `x => -x`, `x => x.-`)
}

// P5.4: without the abbreviations nothing changes.
func TestNothingToReplace(t *testing.T) {
	for _, text := range []string{
		`1`, `2L`, `'a'`, `"a"`, `true`, `false`, `null`, `()`, `a`, `this`, `a.b`, `super.a`, `super[A].a`, `f(a)(b, c = d)`, `f(using a)`,
		`f[A, B => C](a)`, `a = b`, `if (a) b else c`, `while (a) b`, `a match { case A(x, _: B) | 1 if c => d; case _ => e }`,
		`try a catch { case x: A => b } finally c`, `try a`, `throw a`, `return a`, `(x: A, y) => x`, `{ val a = 1; import b; a }`, `new A(b) with C { def d = e }`,
		`(a: A)`, `'{ a }`, `${ a }`, `new A { val b: Int; type C; def d: Int; class E; given A = b; object F }`,
	} {
		wantExpr(t, text, text)
	}
	for _, text := range []string{
		``, `import a.*`, `class A[+B <: C](val x: D, y: => E = f, z: F*)(using g: G) extends H(i) with J { k; private var l = m }`,
		`trait A; object B extends A; case class C(); case object D`, `val a: B`, `var a = b`, `lazy val a = b`,
		`type A[B] = [C] =>> D[_ <: E]`, `type A <: B & C | D`, `given a[B](using c: D): E = f`, `def f[A](x: A)(using y: A): A = x`,
		`type A = B match { case C => D; case E[f] => f }`, `type A = (B, C) => a.type`, `def a: b.C`,
	} {
		wantUnit(t, text, text)
	}
}
