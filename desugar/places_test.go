package desugar

import (
	"slices"
	"testing"

	"newel/api"
	"newel/syntax"
)

// P5.1, P5.2: what is made has the offset of the node that is replaced, and what
// is kept has its own. The offsets of a text form are those of its parentheses;
// in the rows they are replaced by numbers, in preorder: each node of the first
// form has its index as its At, and the row tells that of each node made.
func TestPlaces(t *testing.T) {
	for _, c := range []struct {
		from string
		want []int
	}{
		{`(XInfix "+" (XThis) (XNull))`, []int{0, 0, 1, 2}},
		{`(XPrefix "-" (XInfix "&&" (XThis) (XNull)))`, []int{0, 1, 2, 3, 1}},
		{`(XQuote (XInfix "||" (XThis) (XNull)))`, []int{0, 1, 2, 1, 3}},
		{`(XQuote (XInfix "!=" (XThis) (XNull)))`, []int{0, 1, 1, 1, 2, 3}},
		{`(XQuote (XInfix "::" (XThis) (XNull)))`, []int{0, 1, 1, 1, 1, 2, 1, 1, 3, 1}},
		{`(XQuote (XAssign "+=" (XSelect "a" (XThis)) (XNull)))`, []int{0, 1, 2, 3, 1, 1, 2, 3, 4}},
		{`(XQuote (XAssign "=" (XName "a") (XNull)))`, []int{0, 1, 2, 3}},
		{`(XQuote (XAssign "=" (XApply (XThis) (XNull)) (XTrue)))`, []int{0, 1, 1, 3, 4, 5}},
		{`(XQuote (XInterp "s" (XString) (XThis) (XString) (XNull) (XString "a")))`, []int{0, 1, 1, 1, 1, 1, 1, 2, 3, 5, 6}},
		{`(XQuote (XInterp "s" (XString)))`, []int{0, 2}},
		{`(XQuote (XIf (XThis) (XNull) (SNone)))`, []int{0, 1, 2, 3, 1}},
		{`(XQuote (XReturn (SNone)))`, []int{0, 1, 1}},
		{`(XQuote (XBlock (SImport "a")))`, []int{0, 1, 2, 1}},
		{`(XQuote (XLambda (SLambdaParam "_" (TName "A")) (XThis)))`, []int{0, 1, 2, 3, 4}},
		// for (x <- this if null) true: this.withFilter(x => null).foreach(x => true)
		{`(XQuote (XFor (SGenerator (PBind "x" (PWild)) (XThis)) (SGuard (XNull)) (XTrue)))`,
			[]int{0, 1, 1, 1, 1, 5, 1, 1, 1, 7, 1, 1, 1, 8}},
		// for (x: A <- this; y = null) true: this.foreach((x: A) => null match { case y => true })
		{`(XQuote (XFor (SGenerator (PTyped "x" (TName "A")) (XThis)) (SBinding (PBind "y" (PWild)) (XNull)) (XTrue)))`,
			[]int{0, 1, 1, 5, 1, 1, 4, 1, 9, 1, 7, 8, 1, 10}},
		// for (_ <- this) true: this.foreach(_1 => _1 match { case _ => true })
		{`(XQuote (XFor (SGenerator (PWild) (XThis)) (XTrue)))`, []int{0, 1, 1, 4, 1, 1, 1, 1, 1, 1, 3, 1, 5}},
	} {
		n := shape(t, c.from)
		index := 0
		n = numbered(n, &index)
		got, fault := Expr(n)
		if fault != (api.Fault{}) || !slices.Equal(offsets(got), c.want) {
			t.Errorf("%s: fault %v, offsets %v of %s", c.from, fault, offsets(got), form(got))
		}
	}
}

// numbered returns a tree in which each At is the index in preorder.
func numbered(n syntax.Node, index *int) syntax.Node {
	n.At = *index
	*index++
	kids := make([]syntax.Node, 0, len(n.Kids))
	for _, k := range n.Kids {
		kids = append(kids, numbered(k, index))
	}
	n.Kids = kids
	return n
}

// P5.1: the offsets of definitions: those of an enum's cases are at the cases.
func TestPlacesOfDefinitions(t *testing.T) {
	index := 0
	n := numbered(unitOf(t, `enum E[+A] { case B; case C(x: X) }`), &index)
	// 0 SUnit 1 SClass 2 SMods 3 SNames 4 STParam 5 6 SNone 7 SLists 8 SParents 9 SBody
	// 10 SEnumCase 11 SNames 12 SLists 13 SParents 14 SEnumCase 15 SNames 16 SLists 17 SParams 18 SParam 19 SMods 20 TName 21 SNone 22 SParents
	got, fault := Unit(n)
	want := []int{0, 1, 2, 3, 4, 5, 6, 7, 8, 1,
		10, 10, 10, 12, 13, 10, 10, 10, 10, 10,
		14, 14, 3, 4, 5, 6, 16, 17, 18, 19, 20, 21, 22, 14, 14, 14, 14, 14}
	if fault != (api.Fault{}) || !slices.Equal(offsets(got), want) {
		t.Errorf("an enum: fault %v, offsets %v of %s", fault, offsets(got), form(got))
	}
	index = 0
	n = numbered(unitOf(t, `extension [A] (x: X) def f[B](y: Y)`), &index)
	// 0 SUnit 1 SExtension 2 SNames 3 STParam 4 5 SNone 6 SParam 7 SMods 8 TName 9 SNone 10 SDef 11 SMods 12 SNames
	// 13 STParam 14 15 SNone 16 SLists 17 SParams 18 SParam 19 SMods 20 TName 21 SNone 22 23 SNone
	got, fault = Unit(n)
	want = []int{0, 10, 11, 12, 3, 4, 5, 13, 14, 15, 16, 1, 6, 7, 8, 9, 17, 18, 19, 20, 21, 22, 23}
	if fault != (api.Fault{}) || !slices.Equal(offsets(got), want) {
		t.Errorf("an extension: fault %v, offsets %v of %s", fault, offsets(got), form(got))
	}
}
