package desugar

import (
	"strings"
	"testing"

	"newel/api"
	"newel/syntax"
)

// P5.1: enums.
func TestEnums(t *testing.T) {
	for _, c := range [][2]string{
		{`enum E { case A }`, `sealed abstract class E; case object A extends E`},
		{`enum E { case A() }`, `sealed abstract class E; case class A() extends E`},
		{`enum E { case A(x: Int)(y: Int) }`, `sealed abstract class E; case class A(x: Int)(y: Int) extends E`},
		{`sealed private enum E { case A }`, `sealed private abstract class E; case object A extends E`},
		{`abstract override enum E { case A }`, `sealed override abstract class E; case object A extends E`},
		// the others of the body, lists, parents
		{`enum E(val x: Int)(using y: Int) extends F(-1) with G { def f = -x; case A extends E(-2); a + b; case B, C; val c = 1 }`,
			`sealed abstract class E(val x: Int)(using y: Int) extends F(1.-) with G { def f = x.-; a.+(b); val c = 1 };` +
				`case object A extends E(2.-); case object B extends E; case object C extends E`},
		// type parameters
		{`enum E[+A] { case B(x: A); case C }`, `sealed abstract class E[+A]; case class B[+A](x: A) extends E[A]; case object C extends E[Nothing]`},
		{`enum E[-A] { case B(x: A); case C }`, `sealed abstract class E[-A]; case class B[-A](x: A) extends E[A]; case object C extends E[Any]`},
		{`enum E[A] { case B(x: A) }`, `sealed abstract class E[A]; case class B[A](x: A) extends E[A]`},
		{`enum E[+A, -B <: C, +D[_]] { case F; case G() }`,
			`sealed abstract class E[+A, -B <: C, +D[_]]; case object F extends E[Nothing, Any, Nothing]; case class G[+A, -B <: C, +D[_]]() extends E[A, B, D]`},
		// cases with type parameters or parents of their own
		{`enum E[A] { case B[C](x: C) }`, `sealed abstract class E[A]; case class B[C](x: C) extends E[A]`},
		{`enum E[A] { case B(x: Int) extends E[Int] with F }`, `sealed abstract class E[A]; case class B(x: Int) extends E[Int] with F`},
		{`enum E[A] { case B[C](x: C) extends E[C] }`, `sealed abstract class E[A]; case class B[C](x: C) extends E[C]`},
		{`enum E[A] { case B extends E[Int] }`, `sealed abstract class E[A]; case object B extends E[Int]`},
		{`enum E { case B[C] extends F }`, `sealed abstract class E; case object B extends F`},
		{`enum E { case B[C](x: C) }`, `sealed abstract class E; case class B[C](x: C) extends E`},
		// enums in enums, in bodies, and beside others
		{`enum E { case A; enum F { case B } }`, `sealed abstract class E { sealed abstract class F; case object B extends F }; case object A extends E`},
		{`class C { a; enum E { case A }; b }`, `class C { a; sealed abstract class E; case object A extends E; b }`},
		{`val a = 1; enum E { case A }; val b = new F { enum G { case H } }`,
			`val a = 1; sealed abstract class E; case object A extends E; val b = new F { sealed abstract class G; case object H extends G }`},
		{`enum E { case A(x: Int = -1, f: Int = { _ => 2 }) }`, `sealed abstract class E; case class A(x: Int = 1.-, f: Int = { _1 => 2 }) extends E`},
	} {
		wantUnit(t, c[0], c[1])
	}
}

// P5.1: extensions.
func TestExtensions(t *testing.T) {
	param := `(SParam "x" (SMods) (TName "X") (SNone))`
	def := func(name, num, names, lists string) string {
		return `(SDef "` + name + `"` + num + ` (SMods 8) (SNames` + names + `) (SLists` + lists + `) (TName "R") (XName "x"))`
	}
	a, b := ` (STParam "A" (SNone) (SNone))`, ` (STParam "B" 1 (SNone) (TName "C"))`
	using := ` (SParams 1 (SParam "u" (SMods) (TName "U") (SNone)))`
	for _, c := range [][2]string{
		{`(SExtension (SNames) ` + param + ` ` + def("f", "", "", "") + `)`, def("f", " 1", "", " (SParams "+param+")")},
		{`(SExtension (SNames` + a + `) ` + param + ` ` + def("f", "", "", " (SParams)") + ` ` + def("g", "", b, using) + `)`,
			def("f", " 1", a, " (SParams "+param+") (SParams)") + ` ` + def("g", " 1", a+b, " (SParams "+param+")"+using)},
		{def("f", "", "", "") + ` (SExtension (SNames` + b + `) ` + param + ` ` + def("g", "", a, "") + `) ` + def("h", " 1", "", ""),
			def("f", "", "", "") + ` ` + def("g", " 1", b+a, " (SParams "+param+")") + ` ` + def("h", " 1", "", "")},
	} {
		wantTree(t, Unit, shape(t, `(SUnit `+c[0]+`)`), shape(t, `(SUnit `+c[1]+`)`))
		class := `(SUnit (SClass "C" (SMods) (SNames) (SLists) (SParents) (SBody `
		wantTree(t, Unit, shape(t, class+c[0]+`)))`), shape(t, class+c[1]+`)))`))
	}
}

// P5.1: what stands in the parts of an extension is replaced in each definition.
func TestPartsOfExtensions(t *testing.T) {
	n := unitOf(t, `extension (x: X = _ => a) { def f = -x; def g(y: Y = _ => b) = for (P(z) <- c) yield d }`)
	want := unitOf(t, `def f(x: X = _1 => a) = x.-; def g(x: X = _2 => a)(y: Y = _3 => b) = c.map(_4 => _4 match { case P(z) => d })`)
	for i := range want.Kids {
		want.Kids[i].Num = 1
	}
	wantTree(t, Unit, n, want)
}

// P5.1: lists in their order, and each fault of definitions with its place.
func TestFaultsOfDefinitions(t *testing.T) {
	for _, c := range []struct {
		text string
		mark string // the fault is at it
		code api.Errno
	}{
		{`val a = 1; final enum E { case A }`, `final`, api.ErrFinal},
		{`val a = 1; private final enum E {}`, `private`, api.ErrFinal},
		{`class A { final enum E[A] { case B } }`, `final`, api.ErrFinal},
		{`class A; enum E {}`, `enum`, api.ErrEmpty},
		{`class A; enum E { def f = 1; enum F {} }`, `enum E`, api.ErrEmpty},
		{`class A; enum E { case A; enum F { def f = 1 } }`, `enum F`, api.ErrEmpty},
		{`enum E[A] { def f = 1; case B }`, `case`, api.ErrVariance},
		{`enum E[+A, B] { case C(); case D extends E[F, G]; case H; case I }`, `case H`, api.ErrVariance},
		{`enum E[A] { case B, C }`, `B`, api.ErrVariance},
		{`class A { def f(using x: X)(y: Y) = 1 }`, `(y`, api.ErrOrder},
		{`class A(using x: X)(using y: Y)() { }`, `()`, api.ErrOrder},
		{`def f(x: X)(using y: Y)(z: Z)(w: W) = 1`, `(z`, api.ErrOrder},
		{`def f = { def g = 1; 2 }`, `def g`, api.ErrForm},
		{`def f = { 1; class A; def g = 1; 2 }`, `class`, api.ErrForm},
		{`def f = { val a: Int; 2 }`, `val`, api.ErrForm},
		{`def f = { var a: Int; 2 }`, `var`, api.ErrForm},
		{`def f = { type A = B; 2 }`, `type`, api.ErrForm},
		{`def f = { given A = B; 2 }`, `given`, api.ErrForm},
		{`def f = { extension (x: X) def g = 1; 2 }`, `extension`, api.ErrForm},
		{`def f = { enum E { case A }; 2 }`, `enum`, api.ErrForm},
		{`def f = { final enum E { case A } }`, `final`, api.ErrForm},
		{`def f = '{ val a: Int }`, `val`, api.ErrForm},
		{`def f = a + t"b"`, `t"`, api.ErrName},
		{`def f = S"$a"`, `S"`, api.ErrName},
		{`def f = 1 = 2`, `1`, api.ErrForm},
		{`def f = a + b = c`, `a +`, api.ErrForm},
		{`def f = this += 2`, `this`, api.ErrForm},
		{`def f = a[T] = 2`, `a[`, api.ErrForm},
		{`def f = { -a } = 2`, `{`, api.ErrForm},
		{`def f = -a = 2`, `-a`, api.ErrForm},
		{`def f = (if (b) c) = 2`, `if`, api.ErrForm},
	} {
		at := strings.Index(c.text, c.mark)
		if strings.HasPrefix(c.text, `def f = (if`) { // an assignment has the place of its left side with the parenthesis
			at = unitOf(t, c.text).Kids[0].Kids[4].At
		}
		wantTextFault(t, c.text, at, c.code)
	}
}

// P5.1: cases in bodies of others.
func TestStrayCases(t *testing.T) {
	a := `(SEnumCase "A" (SNames) (SLists) (SParents))`
	parts := ` (SMods) (SNames) (SLists) (SParents) `
	for _, s := range []string{
		`(SUnit (SImport "a") ` + a + `)`,
		`(SUnit (SClass "C"` + parts + `(SBody ` + a + `)))`,
		`(SUnit (SClass "C" 1` + parts + `(SBody (XThis) ` + a + `)))`,
		`(SUnit (SClass "C" 2` + parts + `(SBody ` + a + ` ` + a + `)))`,
		`(SUnit (SVal "v" (SMods) (SNone) (XNew (SParents (SParent (TName "P"))) (SBody ` + a + `))))`,
		`(SUnit (SVal "v" (SMods) (SNone) (XBlock (XThis) ` + a + ` (XThis))))`,
		`(SUnit (SClass "E" 5` + parts + `(SBody (SEnumCase "B" (SNames) (SLists) (SParents)) (SClass "C"` + parts + `(SBody ` + a + `)))))`,
	} {
		wantFault(t, s, Unit, shape(t, s), strings.Index(s, a), api.ErrForm)
	}
}

// P5.1: an enum without a body has no cases.
func TestEnumWithoutBody(t *testing.T) {
	s := `(SUnit (SClass "E" 5 (SMods) (SNames) (SLists) (SParents) (SNone)))`
	wantFault(t, s, Unit, shape(t, s), strings.Index(s, "(SClass"), api.ErrEmpty)
}

// P5.1: of several faults the first one, in the order of the nodes, a node ahead
// of its kids.
func TestFirstFault(t *testing.T) {
	for _, c := range []struct {
		text string
		mark string
		code api.Errno
	}{
		{`val a = t"b"; final enum E { case A }`, `t"`, api.ErrName},
		{`final enum E[A] { case B }; val a = t"b"`, `final`, api.ErrFinal},
		{`enum E[A](x: X = t"b") { case B }`, `case`, api.ErrVariance},
		{`enum E(x: X = t"b") { def f = 1 }`, `enum`, api.ErrEmpty},
		{`enum E(x: X = t"b") { case B; enum F {} }`, `t"`, api.ErrName},
		{`enum E { enum F {}; case B(x: X = t"b") }`, `enum F`, api.ErrEmpty},
		{`enum E { val a = t"b"; case B(using x: X)(y: Y) }`, `t"`, api.ErrName},
		{`enum E { case B(using x: X)(y: Y); val a = t"b" }`, `t"`, api.ErrName},
		{`enum E[A] { case B(x: X = t"b"); case C }`, `case C`, api.ErrVariance},
		{`def f = { t"a"; def g = 1 }`, `def g`, api.ErrForm},
		{`def f = { { def g = 1 }; t"a"; 1 }`, `def g`, api.ErrForm},
		{`def f = { t"a"; { def g = 1 } }`, `t"`, api.ErrName},
		{`def f(using x: X = t"a")(y: Y) = 1`, `(y`, api.ErrOrder},
		{`def f(x: X = t"a") = { def g = 1 }`, `t"`, api.ErrName},
		{`def f = t"a" = { def g = 1 }`, `t"`, api.ErrForm},
		{`def f = t"${S"b"}"`, `t"`, api.ErrName},
		{`def f = s"${t"a"}${S"b"}"`, `t"`, api.ErrName},
		{`def f = t"a" :: S"b"`, `t"`, api.ErrName},
		{`def f = for (x <- t"a"; if S"b") yield 1`, `t"`, api.ErrName},
		{`def f = for (x <- a; y = S"b"; if t"a") yield 1`, `S"`, api.ErrName},
		{`def f = for { x <- a; if t"c"; if S"b" } yield 1`, `t"`, api.ErrName},
		{`extension (x: X = t"a") { def f = S"b"; def g(using u: U)(v: V) = 1 }`, `t"`, api.ErrName},
		{`extension (x: X = t"a") def g(using u: U)(v: V) = 1`, `(v`, api.ErrOrder},
	} {
		wantTextFault(t, c.text, strings.Index(c.text, c.mark), c.code)
	}
}

// P5.1: the fault of Check comes first, with the offset of its node; then a root
// of another kind.
func TestWrongTrees(t *testing.T) {
	for _, c := range []struct {
		form string
		mark string
		code api.Errno
	}{
		{` (SUnit (SImport "a b"))`, `(SImport`, api.ErrName},
		{` (SUnit (SVal "a" (SMods) (SNone) (XInterp "t" (XString))) (SVal "a" 3 (SMods) (SNone) (SNone)))`, `(SVal "a" 3`, api.ErrRange},
		{` (SUnit (SVal "a" (SMods) (SNone) (XInterp "t" (XString 1))))`, `(XString`, api.ErrInvalid},
		{` (SUnit (XThis))`, `(SUnit`, api.ErrForm},
	} {
		n := shape2(c.form)
		wantFault(t, c.form, Unit, n, strings.Index(c.form, c.mark), c.code)
		wantFault(t, c.form, Expr, n, strings.Index(c.form, c.mark), c.code)
	}
	wantFault(t, "a wrong expression", Unit, syntax.Node{Kind: syntax.XThis, Num: 1, At: 3}, 3, api.ErrInvalid)
	wantFault(t, "a wrong expression", Expr, syntax.Node{Kind: syntax.XThis, Num: 1, At: 3}, 3, api.ErrInvalid)
	wantFault(t, "a kind that is none", Expr, syntax.Node{Kind: syntax.Kinds, At: 4}, 4, api.ErrKind)
}

// shape2 returns the tree of a text form, right or not: the offsets of its
// nodes are those of the text.
func shape2(form string) syntax.Node {
	n, _ := read(form, strings.Index(form, "("))
	return n
}

// read reads a node of a text form without escapes, and tells where it ends.
func read(form string, at int) (syntax.Node, int) {
	n := syntax.Node{At: at}
	end := at + strings.IndexAny(form[at:], " )")
	for k := range syntax.Kinds {
		if syntax.Name(k) == form[at+1:end] {
			n.Kind = k
		}
	}
	for form[end] == ' ' {
		switch end++; form[end] {
		case '(':
			var kid syntax.Node
			kid, end = read(form, end)
			n.Kids = append(n.Kids, kid)
		case '"':
			to := end + 1 + strings.IndexByte(form[end+1:], '"')
			n.Text, end = form[end+1:to], to+1
		default:
			n.Num, end = int64(form[end]-'0'), end+1
		}
	}
	return n, end + 1
}

// P5.1, P5.2: the root has to be a unit, or an expression.
func TestRoots(t *testing.T) {
	for k := range syntax.Kinds {
		n := small(k)
		if code := syntax.Check(n).Code; code != api.OK {
			t.Fatalf("%s: %d", syntax.Name(k), code)
		}
		if k != syntax.SUnit {
			wantFault(t, syntax.Name(k), Unit, moved(n, 7), 0, api.ErrKind)
		}
		if syntax.Name(k)[0] != 'X' || k == syntax.XNamed {
			wantFault(t, syntax.Name(k), Expr, moved(n, 7), 0, api.ErrKind)
		} else if _, fault := Expr(n); fault != (api.Fault{}) && k != syntax.XInterp {
			t.Errorf("%s: fault %v", syntax.Name(k), fault)
		}
	}
}
