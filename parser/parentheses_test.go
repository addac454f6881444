package parser

import (
	"strings"
	"testing"

	"newel/api"
	"newel/syntax"
)

// places is a text and the At of the nodes of its tree, in preorder.
type places struct{ text, want string }

func wantPlaces(t *testing.T, parse func(string) (syntax.Node, api.Fault), list []places) {
	t.Helper()
	for _, c := range list {
		n, fault := parse(c.text)
		if got := placesOf(n); got != c.want || fault != (api.Fault{}) {
			t.Errorf("%s\n has %s, fault %v\nwant %s", c.text, got, fault, c.want)
		}
	}
}

// P3.2: an expression in parentheses, and what begins with it, has the At of
// the parenthesis.
func TestPlacesOfExpressionsInParentheses(t *testing.T) {
	wantPlaces(t, Expr, []places{
		{`(a)`, `XName@0`},
		{` ( ( a ) )`, `XName@1`},
		{`; (a) ;`, `XName@2`},
		{`(())`, `XUnit@0`},
		{`(1)`, `XInt@0`},
		{`({ a })`, `XBlock@0 XName@3`},
		{`('{ a })`, `XQuote@0 XBlock@1 XName@4`},
		{`(s"$a")`, `XInterp@0 XString@3 XName@4 XString@5`},
		{`(super.a)`, `XSelect@0 XSuper@1`},
		{`(-a)`, `XPrefix@0 XName@2`},
		{`(new A)`, `XNew@0 SParents@5 SParent@5 TName@5 SNone@6`},
		{`(if (a) b)`, `XIf@0 XName@5 XName@8 SNone@9`},
		{`(return)`, `XReturn@0 SNone@7`},
		{`(a = b)`, `XAssign@0 XName@1 XName@5`},
		// what begins with it
		{`(a) + b`, `XInfix@0 XName@0 XName@6`},
		{`(a) + (b) * (c)`, `XInfix@0 XName@0 XInfix@6 XName@6 XName@12`},
		{`(a) :: (b) :: c`, `XInfix@0 XName@0 XInfix@7 XName@7 XName@14`},
		{`(a + b) * c`, `XInfix@0 XInfix@0 XName@1 XName@5 XName@10`},
		{`((a) + b) * c`, `XInfix@0 XInfix@0 XName@1 XName@7 XName@12`},
		{`(a).b`, `XSelect@0 XName@0`},
		{`(a.b).c`, `XSelect@0 XSelect@0 XName@1`},
		{`(a)[A]`, `XTypes@0 XName@0 TName@4`},
		{`(a)((b))`, `XApply@0 XName@0 XName@4`},
		{`(a) { (b) }`, `XApply@0 XName@0 XBlock@4 XName@6`},
		{`(a) += (b)`, `XAssign@0 XName@0 XName@7`},
		{`(a) match { case 1 => (b); c }`, `XMatch@0 XName@0 SCase@12 PLiteral@17 XInt@17 SNone@19 XBlock@22 XName@22 XName@27`},
		// what does not
		{`(a: A)`, `XTyped@0 XName@1 TName@4`},
		{`((a): A)`, `XTyped@0 XName@1 TName@6`},
		{`((a: A))`, `XTyped@0 XName@2 TName@5`},
		{`((a, b) => (c))`, `XLambda@0 SLambdaParam@2 SNone@3 SLambdaParam@5 SNone@6 XName@11`},
		{`-(a)`, `XPrefix@0 XName@1`},
		{`a(b = (c))`, `XApply@0 XName@0 XNamed@2 XName@6`},
		{`if (a) (b) else (c)`, `XIf@0 XName@4 XName@7 XName@16`},
		{`if ((a)) b`, `XIf@0 XName@4 XName@9 SNone@10`},
		{`while ((a)) (b)`, `XWhile@0 XName@7 XName@12`},
	})
}

// P3.2: so has a type.
func TestPlacesOfTypesInParentheses(t *testing.T) {
	wantPlaces(t, Type, []places{
		{`(A)`, `TName@0`},
		{` ( (A) )`, `TName@1`},
		{`(a.B)`, `TSelect@0 XName@1`},
		{`(this.type)`, `TSingle@0 XThis@1`},
		{`(A)[B]`, `TApply@0 TName@0 TName@4`},
		{`(A)[(B)][C]`, `TApply@0 TApply@0 TName@0 TName@4 TName@9`},
		{`(A) & (B)`, `TAnd@0 TName@0 TName@6`},
		{`(A | B) & C`, `TAnd@0 TOr@0 TName@1 TName@5 TName@10`},
		{`(A) | B | C`, `TOr@0 TOr@0 TName@0 TName@6 TName@10`},
		{`(A) | B => C`, `TFunction@0 TOr@0 TName@0 TName@6 TName@11`},
		{`(A => B) | C`, `TOr@0 TFunction@0 TName@1 TName@6 TName@11`},
		{`([A] =>> B)`, `TLambda@0 SNames@1 STParam@2 SNone@3 SNone@3 TName@9`},
		{`(A) & B match { case (C) => (D) }`, `TMatch@0 TAnd@0 TName@0 TName@6 TCase@16 TName@21 TName@28`},
		// the parentheses of a function are its own
		{`(A) => B`, `TFunction@0 TName@1 TName@7`},
		{`((A)) => (B)`, `TFunction@0 TName@1 TName@9`},
		{`((A), B) => C`, `TFunction@0 TName@1 TName@6 TName@12`},
	})
}

// P3.2: so has a pattern.
func TestPlacesOfPatternsInParentheses(t *testing.T) {
	wantPlaces(t, Pattern, []places{
		{`(_)`, `PWild@0`},
		{` ( (_) )`, `PWild@1`},
		{`(1)`, `PLiteral@0 XInt@1`},
		{`(-1)`, `PLiteral@0 XPrefix@1 XInt@2`},
		{`(())`, `PLiteral@0 XUnit@1`},
		{`()`, `PLiteral@0 XUnit@0`},
		{`(a)`, `PBind@0 PWild@2`},
		{`(a: A)`, `PTyped@0 TName@4`},
		{`(a.B)`, `PStable@0`},
		{`(A(b))`, `PApply@0 PBind@3 PWild@4`},
		{`(1) | 2`, `PAlt@0 PLiteral@0 XInt@1 PLiteral@6 XInt@6`},
		{`1 | (2)`, `PAlt@0 PLiteral@0 XInt@0 PLiteral@4 XInt@5`},
		{`(1 | 2)`, `PAlt@0 PLiteral@1 XInt@1 PLiteral@5 XInt@5`},
		{`x @ (1 | 2)`, `PBind@0 PAlt@4 PLiteral@5 XInt@5 PLiteral@9 XInt@9`},
		{`(x @ (_))`, `PBind@0 PWild@5`},
		{`P((1), (A))`, `PApply@0 PLiteral@2 XInt@3 PStable@7`},
		{`x: (A)`, `PTyped@0 TName@3`},
	})
}

// P3.1, P3.2: generators, bindings, guards, cases and parents that begin with a
// parenthesis.
func TestPlacesOfWhatBeginsWithParentheses(t *testing.T) {
	wantPlaces(t, Expr, []places{
		{`for { (1) <- (x); (2) = y if (z) } (a)`, `XFor@0 SGenerator@6 PLiteral@6 XInt@7 XName@13 SBinding@18 PLiteral@18 XInt@19 XName@24 SGuard@26 XName@29 XName@35`},
		{`for ((1) | 2 <- x; (_) <- y) z`, `XFor@0 SGenerator@5 PAlt@5 PLiteral@5 XInt@6 PLiteral@11 XInt@11 XName@16 SGenerator@19 PWild@19 XName@26 XName@29`},
		{`for (1) <- x yield y`, `XFor@0 SGenerator@4 PLiteral@4 XInt@5 XName@11 XName@19`},
		{`a match { case (1) if (b) => }`, `XMatch@0 XName@0 SCase@10 PLiteral@15 XInt@16 XName@22 XBlock@29`},
		{`new (A)((b)) with (C) { (d) }`, `XNew@0 SParents@4 SParent@4 TName@4 XName@8 SParent@18 TName@18 SBody@22 XName@24`},
	})
	wantPlaces(t, Parse, []places{
		{`class C extends (A)`, `SUnit@0 SClass@0 SMods@0 SNames@8 SLists@8 SParents@8 SParent@16 TName@16 SNone@19`},
		{`object C extends (A)[B], (D)(e)`, `SUnit@0 SClass@0 SMods@0 SNames@9 SLists@9 SParents@9 SParent@17 TApply@17 TName@17 TName@21 SParent@25 TName@25 XName@29 SNone@31`},
		{`val x: (A) = (1)`, `SUnit@0 SVal@0 SMods@0 TName@7 XInt@13`},
		{`given (A) = (b)`, `SUnit@0 SGiven@0 SMods@0 SNames@6 SLists@6 TName@6 XName@12`},
	})
}

// P3.2, P3.4: parentheses around any expression, type or pattern move the root
// to the parenthesis, and nothing else.
func TestParenthesesAround(t *testing.T) {
	d := dice(3)
	for i := range 1500 {
		s := &source{dice: &d, deep: 2 + d.roll(4)}
		[]func() syntax.Node{s.expr, s.typ, s.pattern}[i%3]()
		parse := []func(string) (syntax.Node, api.Fault){Expr, Type, Pattern}[i%3]
		text, _ := render(s.items, &d, false, false)
		text = strings.ReplaceAll(text, "\n", ";") // in parentheses lines mean nothing
		want, fault := parse("  " + text + " ;")
		if fault != (api.Fault{}) {
			t.Fatalf("%s: fault %v", text, fault)
		}
		want.At = 0
		if got, fault := parse("( " + text + " )"); fault != (api.Fault{}) || !sameTree(got, want) {
			t.Fatalf("( %s )\n has %s, fault %v\nwant %s", text, placesOf(got), fault, placesOf(want))
		}
	}
}
