package parser

import (
	"testing"

	"newel/api"
	"newel/syntax"
)

// P3.1, P3.2: the At of each node, in preorder: of its first token; of the node
// with which it begins; of the token behind, where it has none.
func TestPlaces(t *testing.T) {
	for _, c := range []struct {
		parse      func(string) (syntax.Node, api.Fault)
		text, want string
	}{
		{Parse, ` ; private case class A[+B, F[_, _] <: C](val x: => D = e) extends (F)(g) with a.H { i }`,
			`SUnit@1 SClass@3 SMods@3 SNames@23 STParam@24 SNone@26 SNone@26 STParam@28 SNone@36 TName@39 SNone@30 SNone@33 SLists@41 SParams@41 SParam@42 SMods@42 TName@52 XName@56 SParents@59 SParent@67 TName@67 XName@71 SParent@79 TSelect@79 XName@79 SBody@83 XName@85`},
		{Parse, "enum E:\n  case A, B\n  case C(d: D)",
			`SUnit@0 SClass@0 SMods@0 SNames@6 SLists@6 SParents@6 SBody@6 SEnumCase@15 SNames@16 SLists@16 SParents@16 SEnumCase@18 SNames@22 SLists@22 SParents@22 SEnumCase@22 SNames@28 SLists@28 SParams@28 SParam@29 SMods@29 TName@32 SNone@33 SParents@34`},
		{Parse, ` def f: A`,
			`SUnit@1 SDef@1 SMods@1 SNames@6 SLists@6 TName@8 SNone@9`},
		{Parse, ` type A <: B; type C = D; given E[F] = g; given h(i: I): J = k`,
			`SUnit@1 SType@1 SMods@1 SNames@8 SNone@8 TName@11 SNone@12 SType@14 SMods@14 SNames@21 SNone@21 SNone@21 TName@23 SGiven@26 SMods@26 SNames@32 SLists@32 TApply@32 TName@32 TName@34 XName@39 SGiven@42 SMods@42 SNames@49 SLists@49 SParams@49 SParam@50 SMods@50 TName@53 SNone@54 TName@57 XName@61`},
		{Parse, "extension (a: A):\n  def f",
			`SUnit@0 SExtension@0 SNames@10 SParam@11 SMods@11 TName@14 SNone@15 SDef@20 SMods@20 SNames@25 SLists@25 SNone@25 SNone@25`},
		{Expr, ` (a + b) * -c.d(e, f = g)[H]`,
			`XInfix@1 XInfix@1 XName@2 XName@6 XPrefix@11 XTypes@12 XApply@12 XSelect@12 XName@12 XName@16 XNamed@19 XName@23 TName@26`},
		{Expr, `((a: A): B)`,
			`XTyped@0 XTyped@1 XName@2 TName@5 TName@9`},
		{Expr, `if a then b`,
			`XIf@0 XName@3 XName@10 SNone@11`},
		{Expr, `a match { case x | (y) if z => ; case 1 => v; w }`,
			`XMatch@0 XName@0 SCase@10 PAlt@15 PBind@15 PWild@17 PBind@19 PWild@21 XName@26 XBlock@31 SCase@33 PLiteral@38 XInt@38 SNone@40 XBlock@43 XName@43 XName@46`},
		{Expr, ` for (x <- xs; (y: Y) = z; if a) b`,
			`XFor@1 SGenerator@6 PBind@6 PWild@8 XName@11 SBinding@15 PTyped@15 TName@19 XName@24 SGuard@27 XName@30 XName@33`},
		{Expr, `try a catch case b => c`,
			`XTry@0 XName@4 SCases@12 SCase@12 PBind@17 PWild@19 SNone@19 XName@22 SNone@23`},
		{Expr, `(a, _: B) => c`,
			`XLambda@0 SLambdaParam@1 SNone@2 SLambdaParam@4 TName@7 XName@13`},
		{Expr, `new A(b) { }`,
			`XNew@0 SParents@4 SParent@4 TName@4 XName@6 SBody@9`},
		{Expr, ` new A.+`,
			`XSelect@1 XNew@1 SParents@5 SParent@5 TName@5 SNone@6`},
		{Expr, `new A with b.C.+(d)`,
			`XApply@0 XSelect@0 XNew@0 SParents@4 SParent@4 TName@4 SParent@11 TSelect@11 XName@11 SNone@14 XName@17`},
		{Expr, `'{ a }`,
			`XQuote@0 XBlock@0 XName@3`},
		{Expr, `s"a${b}c$this"`,
			`XInterp@0 XString@2 XName@5 XString@7 XThis@9 XString@13`},
		{Expr, `super[A].b`,
			`XSelect@0 XSuper@0`},
		{Type, ` (A | B)[C] & a.b.D => (E, F) => this.type`,
			`TFunction@1 TAnd@1 TApply@1 TOr@1 TName@2 TName@6 TName@9 TSelect@14 XSelect@14 XName@14 TFunction@23 TName@24 TName@27 TSingle@33 XThis@33`},
		{Type, `[A] =>> B match { case (C) => D }`,
			`TLambda@0 SNames@0 STParam@1 SNone@2 SNone@2 TMatch@8 TName@8 TCase@18 TName@23 TName@30`},
		{Type, `A[_ <: B, (C)]`,
			`TApply@0 TName@0 TWild@2 SNone@4 TName@7 TName@10`},
		{Pattern, `(a) | B(c, - 1) | _ | d: D`,
			`PAlt@0 PBind@0 PWild@2 PApply@6 PBind@8 PWild@9 PLiteral@11 XPrefix@11 XInt@13 PWild@18 PTyped@22 TName@25`},
		{Pattern, `a.b(_) | "c" | ()`,
			`PAlt@0 PApply@0 PWild@4 PLiteral@9 XString@9 PLiteral@15 XUnit@15`},
		{Pattern, `x @ (Y)`,
			`PBind@0 PStable@4`},
		{Expr, `f { a } { b }`,
			`XApply@0 XApply@0 XName@0 XBlock@2 XName@4 XBlock@8 XName@10`},
		{Expr, `while (a) b`,
			`XWhile@0 XName@7 XName@10`},
		{Expr, `throw a`,
			`XThrow@0 XName@6`},
		{Expr, `return`,
			`XReturn@0 SNone@1`},
		{Expr, `{ try a; finally b }`,
			`XBlock@0 XTry@2 XName@6 SCases@7 XName@17`},
		{Parse, `import a.b`,
			`SUnit@0 SImport@0`},
		{Expr, `a = b`,
			`XAssign@0 XName@0 XName@4`},
		{Expr, `_ => a`,
			`XLambda@0 SLambdaParam@0 SNone@2 XName@5`},
		{Expr, `{ }`,
			`XBlock@0`},
		{Expr, `${ }`,
			`XSplice@0 XBlock@0`},
	} {
		n, fault := c.parse(c.text)
		if got := placesOf(n); got != c.want || fault != (api.Fault{}) {
			t.Errorf("%s\n has %s, fault %v\nwant %s", c.text, got, fault, c.want)
		}
	}
}
