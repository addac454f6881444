package desugar

import (
	"testing"

	"newel/api"
	"newel/parser"
	"newel/syntax"
)

// dice are numbers that look random and are the same in each run.
type dice uint64

// roll returns a number from 0 to n - 1.
func (d *dice) roll(n int) int {
	*d = *d*6364136223846793005 + 1442695040888963407
	return int(uint64(*d)>>33) % n
}

func (d *dice) pick(words ...string) string { return words[d.roll(len(words))] }

// shape returns the tree of a text form.
func shape(t *testing.T, form string) syntax.Node {
	t.Helper()
	n, fault := syntax.Read(form)
	if fault != (api.Fault{}) {
		t.Fatalf("%.300s: fault %v", form, fault)
	}
	return n
}

// form returns the text form of a tree.
func form(n syntax.Node) string {
	s, _ := syntax.Text(n)
	return s
}

// parsed returns the tree of a text.
func parsed(t *testing.T, parse func(string) (syntax.Node, api.Fault), text string) syntax.Node {
	t.Helper()
	n, fault := parse(text)
	if fault != (api.Fault{}) {
		t.Fatalf("%.300s: fault %v", text, fault)
	}
	return n
}

func unitOf(t *testing.T, text string) syntax.Node {
	t.Helper()
	return parsed(t, parser.Parse, text)
}

func exprOf(t *testing.T, text string) syntax.Node {
	t.Helper()
	return parsed(t, parser.Expr, text)
}

// wantTree checks what a function makes of a tree, and what holds for each core
// tree.
func wantTree(t *testing.T, of func(syntax.Node) (syntax.Node, api.Fault), n, want syntax.Node) {
	t.Helper()
	got, fault := of(n)
	if fault != (api.Fault{}) || !syntax.Equal(got, want) {
		t.Errorf("%.1000s\nfault %v, tree\n%.2000s\nwant\n%.2000s", form(n), fault, form(got), form(want))
		return
	}
	wantCore(t, of, got)
}

// P5.4: what is returned is a core tree, and a core tree stays as it is, with
// its offsets.
func wantCore(t *testing.T, of func(syntax.Node) (syntax.Node, api.Fault), n syntax.Node) {
	t.Helper()
	if !Core(n) {
		t.Errorf("no core tree:\n%.2000s", form(n))
	}
	again, fault := of(n)
	if fault != (api.Fault{}) || !syntax.Equal(again, n) || !sameOffsets(again, n) {
		t.Errorf("the core tree\n%.2000s\nis made, with fault %v,\n%.2000s", form(n), fault, form(again))
	}
}

// sameOffsets reports whether equal trees have the same offsets.
func sameOffsets(a, b syntax.Node) bool {
	if a.At != b.At {
		return false
	}
	for i := range a.Kids {
		if !sameOffsets(a.Kids[i], b.Kids[i]) {
			return false
		}
	}
	return true
}

// wantExpr checks what an expression is replaced by; both are texts.
func wantExpr(t *testing.T, text, want string) {
	t.Helper()
	wantTree(t, Expr, exprOf(t, text), exprOf(t, want))
}

// wantUnit checks what a unit is replaced by; both are texts.
func wantUnit(t *testing.T, text, want string) {
	t.Helper()
	wantTree(t, Unit, unitOf(t, text), unitOf(t, want))
}

// wantForm checks what an expression is replaced by; both are text forms.
func wantForm(t *testing.T, from, want string) {
	t.Helper()
	wantTree(t, Expr, shape(t, from), shape(t, want))
}

// wantFault checks the fault of a tree, and that there is no tree with it.
func wantFault(t *testing.T, what string, of func(syntax.Node) (syntax.Node, api.Fault), n syntax.Node, at int, code api.Errno) {
	t.Helper()
	got, fault := of(n)
	if fault != (api.Fault{At: at, Code: code}) || !syntax.Equal(got, syntax.Node{}) || got.At != 0 {
		t.Errorf("%.300s: fault %v, want {%d %d}, tree %.300s", what, fault, at, code, form(got))
	}
}

// wantTextFault checks the fault of the unit of a text.
func wantTextFault(t *testing.T, text string, at int, code api.Errno) {
	t.Helper()
	wantFault(t, text, Unit, unitOf(t, text), at, code)
}

// offsets returns the At of each node, in preorder.
func offsets(n syntax.Node) []int {
	l := []int{n.At}
	for _, k := range n.Kids {
		l = append(l, offsets(k)...)
	}
	return l
}

// moved returns a tree in which each node has the same At.
func moved(n syntax.Node, at int) syntax.Node {
	kids := make([]syntax.Node, 0, len(n.Kids))
	for _, k := range n.Kids {
		kids = append(kids, moved(k, at))
	}
	n.At, n.Kids = at, kids
	return n
}
