package parser

import (
	"strings"
	"testing"

	"newel/api"
	"newel/syntax"
)

// P3.1: what is nested in 100 others, and in one more. Trees of either are too
// deep for layer 2; of the first ones this is told at the root.
func TestNesting(t *testing.T) {
	for _, c := range []struct {
		parse                      func(string) (syntax.Node, api.Fault)
		front, again, inner, close string
		most                       int // how often what is repeated may stand there
		back                       int // how far in front of inner the fault of one more is
	}{
		{Expr, "", "a => ", "b", "", 100, 0},
		{Expr, " ", "(a, b) => ", "c", "", 100, 0},
		{Expr, "", "_ =>\n", "c", "", 100, 0},
		{Expr, "", "if a then ", "b", "", 100, 7}, // at the condition, which is nested as deeply
		{Expr, "", "if (a) b else ", "c", "", 100, 10},
		{Expr, "", "while (a) ", "b", "", 100, 3},
		{Expr, "", "for a <- b do ", "c", "", 100, 10},
		{Expr, "", "try ", "a", "", 100, 0},
		{Expr, "", "try a finally ", "b", "", 100, 10},
		{Expr, "", "throw ", "a", "", 100, 0},
		{Expr, "", "return ", "a", "", 100, 0},
		{Expr, "", "a = ", "b", "", 100, 0},
		{Expr, "", "a += ", "b", "", 100, 0},
		{Expr, "", "a :: ", "b", "", 100, 0},
		{Expr, "", "- ", "a", "", 100, 2},
		{Expr, "throw ", "- ", "a", "", 99, 2},
		{Expr, "a + ", "! ", "b", "", 99, 2},
		{Expr, "", "a => ", "a || b && c == d < e", "", 96, -19},
		{Expr, strings.Repeat("a => ", 80), "(", "b", ")", 20, 0},
		{Expr, strings.Repeat("a => ", 80), "f(", "b", ")", 20, 0},
		{Expr, strings.Repeat("a => ", 80), "f(b = ", "c", ")", 20, 0},
		{Expr, strings.Repeat("a => ", 80), "{", "b", "}", 20, 0},
		{Expr, strings.Repeat("a => ", 80), "new A { b; ", "val c", "}", 20, 3},
		{Type, "", "A => ", "B", "", 100, 0},
		{Type, "", "() => ", "B", "", 100, 0},
		{Type, "", "[A] =>> ", "B", "", 100, 0},
		{Type, strings.Repeat("A => ", 80), "A[", "B", "]", 20, 0},
		{Type, strings.Repeat("A => ", 80), "(", "B", ")", 20, 0},
		{Pattern, "", "a @ ", "b", "", 100, 0},
		{Pattern, strings.Repeat("a @ ", 80), "A(", "b", ")", 20, 0},
		{Pattern, strings.Repeat("a @ ", 80), "(", "b", ")", 20, 0},
		{Parse, "val a = ", "b => ", "c", "", 100, 0},
		{Parse, "val a: ", "B => ", "C", "", 100, 0},
		{Parse, "class A { val a = ", "b => ", "c", "", 99, 0},
	} {
		end := strings.Repeat("}", strings.Count(c.front, "{"))
		text := c.front + strings.Repeat(c.again, c.most) + c.inner + strings.Repeat(c.close, c.most) + end
		root := len(text) - len(strings.TrimLeft(text, " "))
		wantFault(t, c.parse, text, root, api.ErrDepth)
		text = c.front + strings.Repeat(c.again, c.most+1)
		at := len(text) - c.back
		wantFault(t, c.parse, text+c.inner+strings.Repeat(c.close, c.most+1)+end, at, api.ErrDepth)
	}
}

// P3.1: a token that begins nothing is a fault of the syntax, however deeply
// nested; what is too deep is told ahead of what stands behind it.
func TestNestingAndSyntax(t *testing.T) {
	deep := strings.Repeat("a => ", 101)
	wantFault(t, Expr, deep+"=", 505, api.ErrSyntax)
	wantFault(t, Expr, deep, 503, api.ErrSyntax)
	wantFault(t, Expr, deep+"val", 505, api.ErrSyntax)
	wantFault(t, Expr, deep+"b =", 505, api.ErrDepth)
	wantFault(t, Expr, deep+"(=)", 505, api.ErrDepth)
	wantFault(t, Type, strings.Repeat("A => ", 101)+"+", 505, api.ErrSyntax)
	wantFault(t, Pattern, strings.Repeat("a @ ", 101)+"=", 404, api.ErrSyntax)
}

// P3.1: a case of an enum is a statement, and so is the block of a case.
func TestNestedStatements(t *testing.T) {
	wantFault(t, Parse, "enum A { case B(c: C = "+strings.Repeat("d => ", 99)+"e) }", 0, api.ErrDepth)
	wantFault(t, Parse, "enum A { case B(c: C = "+strings.Repeat("d => ", 100)+"e) }", 523, api.ErrDepth)
	wantFault(t, Expr, strings.Repeat("a => ", 98)+"b match { case c => { d } }", 0, api.ErrDepth)
	wantFault(t, Expr, strings.Repeat("a => ", 99)+"b match { case c => { d } }", 517, api.ErrDepth)
}

// P3.1: what is nested as deeply as trees may be is read.
func TestDeepest(t *testing.T) {
	for _, c := range []struct {
		parse func(string) (syntax.Node, api.Fault)
		text  string
		depth int
	}{
		{Expr, strings.Repeat("(", 63) + "a" + strings.Repeat(")", 63), 1},
		{Expr, strings.Repeat("{", 63) + "a" + strings.Repeat("}", 63), 64},
		{Expr, strings.Repeat("f(", 63) + "a" + strings.Repeat(")", 63), 64},
		{Expr, strings.Repeat("a + (", 50) + "a" + strings.Repeat(")", 50), 51}, // the operand and what is in parentheses count
		{Expr, strings.Repeat("- ", 63) + "a", 64},
		{Expr, strings.Repeat("a + ", 63) + "a", 64},
		{Expr, "a" + strings.Repeat(".b", 63), 64},
		{Expr, "a" + strings.Repeat("(b)", 63), 64},
		{Type, strings.Repeat("A[", 63) + "B" + strings.Repeat("]", 63), 64},
		{Type, "A" + strings.Repeat(" | B", 63), 64},
		{Type, "a" + strings.Repeat(".B", 63), 64},
		{Pattern, strings.Repeat("A(", 62) + "b" + strings.Repeat(")", 62), 64},
	} {
		n, fault := c.parse(c.text)
		if fault != (api.Fault{}) || syntax.Depth(n) != c.depth {
			t.Errorf("%.40s: depth %d, fault %v", c.text, syntax.Depth(n), fault)
		}
	}
	wantFault(t, Expr, "a"+strings.Repeat(".b", 64), 0, api.ErrDepth)
	wantFault(t, Expr, "a"+strings.Repeat("(b)", 5000), 0, api.ErrDepth)
	wantFault(t, Type, " a"+strings.Repeat(".B", 9000), 1, api.ErrDepth)
}

// P3.1: the limit of nodes is that of layer 2, told at the root.
func TestManyNodes(t *testing.T) {
	defs := "class A { " + strings.Repeat("def f;", 100) + "}; " // 606 nodes
	if n, fault := Parse(strings.Repeat(defs, 33)); fault != (api.Fault{}) || syntax.Size(n) != 33*606+1 {
		t.Errorf("%d nodes, fault %v", syntax.Size(n), fault)
	}
	wantFault(t, Parse, "  "+strings.Repeat(defs, 34), 2, api.ErrLimit)
}

// P3.3: the number of texts.
func TestUnitsLimit(t *testing.T) {
	texts := make([]string, 51)
	if l, i, fault := Units(texts[:50]); len(l) != 50 || i != 0 || fault != (api.Fault{}) {
		t.Errorf("50 texts: %d trees, index %d, fault %v", len(l), i, fault)
	}
	texts[3] = "="
	if l, i, fault := Units(texts); len(l) != 0 || i != 0 || fault != (api.Fault{Code: api.ErrLimit}) {
		t.Errorf("51 texts: %d trees, index %d, fault %v", len(l), i, fault)
	}
	if l, i, fault := Units(texts[:50]); len(l) != 0 || i != 3 || fault != (api.Fault{Code: api.ErrSyntax}) {
		t.Errorf("a fault in text 3: %d trees, index %d, fault %v", len(l), i, fault)
	}
}
