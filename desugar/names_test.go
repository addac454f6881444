package desugar

import (
	"slices"
	"strconv"
	"testing"

	"newel/api"
	"newel/parser"
	"newel/syntax"
)

// P5.3: counts of fresh names.
func TestFreshCounts(t *testing.T) {
	n := exprOf(t, `a`)
	for _, count := range []int{0, 1, 2, 999, 1000} {
		names, e := Fresh(n, count)
		if e != api.OK || len(names) != count {
			t.Fatalf("%d: %d names, error %d", count, len(names), e)
		}
		for i, name := range names {
			if name != "_"+strconv.Itoa(i+1) {
				t.Errorf("%d: name %d is %s", count, i, name)
			}
		}
	}
	for _, count := range []int{-1, -1 << 62, 1001, 1 << 62} {
		if names, e := Fresh(n, count); e != api.ErrRange || len(names) != 0 {
			t.Errorf("%d: %v, error %d", count, names, e)
		}
	}
	if names, e := Fresh(syntax.Node{Kind: -1}, -1); e != api.ErrRange || len(names) != 0 {
		t.Errorf("of a wrong tree: %v, error %d", names, e)
	}
}

// P5.3, P5.4: fresh names do not occur in the tree, as any Text.
func TestFreshTaken(t *testing.T) {
	for _, c := range []struct {
		text string
		want []string
	}{
		{`_1`, []string{"_2", "_3", "_4"}},
		{`f(_2)`, []string{"_1", "_3", "_4"}},
		{`"_3" + this._1`, []string{"_2", "_4", "_5"}},
		{`x match { case _1 @ P(_2) => (_4: Int) => 1 }`, []string{"_3", "_5", "_6"}},
		{`_01`, []string{"_1", "_2", "_3"}},
		{`x match { case a._1 => "_1 " }`, []string{"_1", "_2", "_3"}},
	} {
		if names, e := Fresh(exprOf(t, c.text), 3); e != api.OK || !slices.Equal(names, c.want) {
			t.Errorf("%s: %v, error %d", c.text, names, e)
		}
	}
	names, e := Fresh(unitOf(t, `class _1[_2](_3: _4) { type _5; import _6 }; enum _8 { case _9 }`), 3)
	if e != api.OK || !slices.Equal(names, []string{"_7", "_10", "_11"}) {
		t.Errorf("of a unit: %v, error %d", names, e)
	}
	all := syntax.Node{Kind: syntax.XBlock}
	for i := range 3000 {
		all.Kids = append(all.Kids, syntax.Node{Kind: syntax.XName, Text: "_" + strconv.Itoa(i)})
	}
	names, e = Fresh(all, 1000)
	if e != api.OK || len(names) != 1000 || names[0] != "_3000" || names[999] != "_3999" {
		t.Errorf("behind 3000 names: %d names, error %d", len(names), e)
	}
}

// P1: fresh names of trees that are not right, and of lists that share memory.
func TestFreshOfAnyNodes(t *testing.T) {
	want := func(what string, n syntax.Node, names ...string) {
		t.Helper()
		if got, e := Fresh(n, len(names)); e != api.OK || !slices.Equal(got, names) {
			t.Errorf("%s: %v, error %d", what, got, e)
		}
	}
	want("a kind that is none", syntax.Node{Kind: 99, Text: "_1", Kids: []syntax.Node{{Kind: -1, Text: "_3"}}}, "_2", "_4")
	deep := syntax.Node{Text: "_2"}
	for range 1 << 16 {
		deep = syntax.Node{Kids: []syntax.Node{deep}}
	}
	want("nested deeply", deep, "_1", "_3")
	shared := syntax.Node{Text: "_1"}
	for range 100 {
		shared = syntax.Node{Kids: []syntax.Node{shared, shared}}
	}
	want("shared lists", shared, "_2")
	round := []syntax.Node{{Text: "_1"}, {Text: "_2"}}
	round[0].Kids = round
	want("a list in itself", syntax.Node{Kids: round[:1]}, "_3")
}

// P5.3: the names that patterns bind.
func TestBound(t *testing.T) {
	for _, c := range []struct {
		text string
		want []string
	}{
		{`_`, nil}, {`x`, []string{"x"}}, {`x: T`, []string{"x"}}, {`_: T`, nil}, {`-1`, nil}, {`"x"`, nil}, {`A`, nil}, {`a.b`, nil},
		{`x @ _`, []string{"x"}}, {`x @ P(y, z: T)`, []string{"x", "y", "z"}}, {`P(Q(a), _, b @ R(c, d @ (_: T)), a)`, []string{"a", "b", "c", "d", "a"}},
		{`P(y) | x @ Q(_: T) | z: T`, []string{"y", "x", "z"}}, {`P()`, nil}, {`P(x: y.type)`, []string{"x"}},
	} {
		n := parsed(t, parser.Pattern, c.text)
		if got := Bound(n); !slices.Equal(got, c.want) {
			t.Errorf("%s: %v", c.text, got)
		}
	}
}

// P5.3: trees that bind nothing, because they are no patterns or not right.
func TestBoundOfOthers(t *testing.T) {
	for k := range syntax.Kinds {
		if l := Bound(small(k)); len(l) != 0 && k != syntax.PBind && k != syntax.PTyped {
			t.Errorf("%s: %v", syntax.Name(k), l)
		}
	}
	x := syntax.Node{Kind: syntax.PBind, Text: "x", Kids: []syntax.Node{{Kind: syntax.PWild}}}
	deep := x
	for range 63 {
		deep = syntax.Node{Kind: syntax.PApply, Text: "P", Kids: []syntax.Node{deep}}
	}
	for _, n := range []syntax.Node{
		{Kind: syntax.SCase, Kids: []syntax.Node{x, {}, {Kind: syntax.XThis}}}, {Kind: syntax.PBind, Text: "x"},
		{Kind: syntax.PBind, Text: "y", Kids: []syntax.Node{x}}, {Kind: syntax.PAlt, Kids: []syntax.Node{x}},
		{Kind: syntax.PApply, Text: "P Q", Kids: []syntax.Node{x}}, {Kind: -1, Kids: []syntax.Node{x}}, {Kind: syntax.Kinds, Kids: []syntax.Node{x}}, deep,
	} {
		if l := Bound(n); len(l) != 0 {
			t.Errorf("%.300s: %v", form(n), l)
		}
	}
	if l := Bound(deep.Kids[0]); !slices.Equal(l, []string{"x"}) {
		t.Errorf("nested as deep as may be: %v", l)
	}
}
