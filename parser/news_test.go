package parser

import "testing"

// P3.2: behind the type of a parent of new, a point and an operator select from
// the new object; a point and a name belong to the type.
func TestOperatorsBehindNew(t *testing.T) {
	wantRows(t, []row{
		{Expr, `new A.+`,
			`(XSelect "+" (XNew (SParents (SParent (TName "A"))) (SNone)))`},
		{Expr, `new A . ++ (b) { c }`,
			`(XApply (XApply (XSelect "++" (XNew (SParents (SParent (TName "A"))) (SNone))) (XName "b")) (XBlock (XName "c")))`},
		{Expr, "new A\n  .+(\n  b)",
			`(XApply (XSelect "+" (XNew (SParents (SParent (TName "A"))) (SNone))) (XName "b"))`},
		{Expr, `new A.+=`,
			`(XSelect "+=" (XNew (SParents (SParent (TName "A"))) (SNone)))`},
		{Expr, `new A.+ = b`,
			`(XAssign "=" (XSelect "+" (XNew (SParents (SParent (TName "A"))) (SNone))) (XName "b"))`},
		{Expr, `new A.+.b.C`,
			`(XSelect "C" (XSelect "b" (XSelect "+" (XNew (SParents (SParent (TName "A"))) (SNone)))))`},
		{Expr, `new A.+[B]`,
			`(XTypes (XSelect "+" (XNew (SParents (SParent (TName "A"))) (SNone))) (TName "B"))`},
		{Expr, `new A.b.C.::`,
			`(XSelect "::" (XNew (SParents (SParent (TSelect "C" (XSelect "b" (XName "A"))))) (SNone)))`},
		{Expr, `new A.b.C`,
			`(XNew (SParents (SParent (TSelect "C" (XSelect "b" (XName "A"))))) (SNone))`},
		{Expr, `new this.A.+`,
			`(XSelect "+" (XNew (SParents (SParent (TSelect "A" (XThis)))) (SNone)))`},
		{Expr, `new a.type.+`,
			`(XSelect "+" (XNew (SParents (SParent (TSingle (XName "a")))) (SNone)))`},
		{Expr, `new this.type.+`,
			`(XSelect "+" (XNew (SParents (SParent (TSingle (XThis)))) (SNone)))`},
		{Expr, `new (A).+`,
			`(XSelect "+" (XNew (SParents (SParent (TName "A"))) (SNone)))`},
		{Expr, `new A[b.C].+`,
			`(XSelect "+" (XNew (SParents (SParent (TApply (TName "A") (TSelect "C" (XName "b"))))) (SNone)))`},
		{Expr, `new A[B].c`,
			`(XSelect "c" (XNew (SParents (SParent (TApply (TName "A") (TName "B")))) (SNone)))`},
		{Expr, `new A(b.+).*`,
			`(XSelect "*" (XNew (SParents (SParent 1 (TName "A") (XSelect "+" (XName "b")))) (SNone)))`},
		{Expr, `new A with b.C.+`,
			`(XSelect "+" (XNew (SParents (SParent (TName "A")) (SParent (TSelect "C" (XName "b")))) (SNone)))`},
	})
}

// P3.2: the same behind a body, and inside of other expressions.
func TestOperatorsBehindNewInExpressions(t *testing.T) {
	wantRows(t, []row{
		{Expr, `new A { b }.+`,
			`(XSelect "+" (XNew (SParents (SParent (TName "A"))) (SBody (XName "b"))))`},
		{Expr, `-new A.- - new B.-`,
			`(XInfix "-" (XPrefix "-" (XSelect "-" (XNew (SParents (SParent (TName "A"))) (SNone)))) (XSelect "-" (XNew (SParents (SParent (TName "B"))) (SNone))))`},
		{Expr, `new A + b`,
			`(XInfix "+" (XNew (SParents (SParent (TName "A"))) (SNone)) (XName "b"))`},
		{Expr, `f(new A.+, new B.c)`,
			`(XApply (XName "f") (XSelect "+" (XNew (SParents (SParent (TName "A"))) (SNone))) (XNew (SParents (SParent (TSelect "c" (XName "B")))) (SNone)))`},
		{Expr, `new A(new B.+).+`,
			`(XSelect "+" (XNew (SParents (SParent 1 (TName "A") (XSelect "+" (XNew (SParents (SParent (TName "B"))) (SNone))))) (SNone)))`},
	})
}
