package syntax

import (
	"reflect"
	"slices"
	"strings"
	"testing"

	"newel/api"
)

// P2.3: equal but for At.
func TestEqual(t *testing.T) {
	base := shape(t, `(SVal "a" 1 (SMods 2) (SNone) (XInfix "+" (XInt 1) (XName "x")))`)
	same := shape(t, `(SVal "a" 1 (SMods 2) (SNone) (XInfix "+" (XInt 1) (XName "x")))`)
	same.At, same.Kids[0].At, same.Kids[2].Kids[1].At = 100, -1, 7
	same.Kids[1].Kids = []Node{}
	if !Equal(base, same) || !Equal(same, base) || !Equal(base, base) {
		t.Error("trees that differ in At are not equal")
	}
	for _, form := range []string{
		`(SDef "a" 1 (SMods 2) (SNone) (XInfix "+" (XInt 1) (XName "x")))`,
		`(SVal "b" 1 (SMods 2) (SNone) (XInfix "+" (XInt 1) (XName "x")))`,
		`(SVal 1 (SMods 2) (SNone) (XInfix "+" (XInt 1) (XName "x")))`,
		`(SVal "a" 2 (SMods 2) (SNone) (XInfix "+" (XInt 1) (XName "x")))`,
		`(SVal "a" 1 (SMods) (SNone) (XInfix "+" (XInt 1) (XName "x")))`,
		`(SVal "a" 1 (SMods 2) (SNone) (XInfix "+" (XInt 1) (XName "y")))`,
		`(SVal "a" 1 (SMods 2) (SNone) (XInfix "+" (XInt 1) (TName "x")))`,
		`(SVal "a" 1 (SMods 2) (SNone) (XInfix "+" (XInt 2) (XName "x")))`,
		`(SVal "a" 1 (SMods 2) (SNone) (XInfix "+" (XName "x") (XInt 1)))`,
		`(SVal "a" 1 (SMods 2) (SNone) (XInfix "+" (XInt 1)))`,
		`(SVal "a" 1 (SMods 2) (SNone) (XInfix "+" (XInt 1) (XName "x") (XThis)))`,
		`(SVal "a" 1 (SMods 2) (SNone) (XInfix "+" (XInt 1) (XName "x" (XThis))))`,
		`(SVal "a" 1 (SMods 2) (SNone))`,
		`(SVal "a" 1)`,
	} {
		other := shape(t, form)
		if Equal(base, other) || Equal(other, base) {
			t.Errorf("%s is equal", form)
		}
	}
	if !Equal(Node{Kind: -7, Text: "?"}, Node{Kind: -7, Text: "?", At: 1}) || Equal(Node{}, Node{Num: 1}) || !Equal(Node{}, Node{}) {
		t.Error("nodes that are not right")
	}
	big, other := wide(3*api.MaxNodes), wide(3*api.MaxNodes)
	if !Equal(big, other) {
		t.Error("large trees")
	}
	last := other.Kids[len(other.Kids)-1].Kids
	last[len(last)-1].Text = "b"
	if Equal(big, other) {
		t.Error("large trees that differ at the end")
	}
	if deep := chain(1 << 16); !Equal(deep, chain(1<<16)) || Equal(deep, chain(1<<16-1)) {
		t.Error("deep trees")
	}
}

// P2.3: the numbers of nodes and of levels, and where counting ends.
func TestSizeAndDepth(t *testing.T) {
	for _, c := range []struct {
		what        string
		n           Node
		size, depth int
	}{
		{"nothing", Node{}, 1, 1},
		{"no node of the table", Node{Kind: -1, Kids: []Node{{Kind: 99}, {}}}, 3, 2},
		{"a tree", shape(t, `(XInfix "+" (XInt 1) (XPrefix "-" (XName "x")))`), 4, 3},
		{"the deepest kid first", shape(t, `(XInfix "+" (XPrefix "-" (XName "x")) (XInt 1))`), 4, 3},
		{"a chain", chain(api.MaxNest), api.MaxNest, api.MaxNest},
		{"a longer chain", chain(api.MaxNest + 1), api.MaxNest + 1, api.MaxNest + 1},
		{"a chain that is too long", chain(api.MaxNest + 40), api.MaxNest + 40, api.MaxNest + 1},
		{"a very long chain", chain(1 << 16), api.MaxNodes + 1, api.MaxNest + 1},
		{"as many nodes as may be", wide(api.MaxNodes), api.MaxNodes, 3},
		{"a node more", wide(api.MaxNodes + 1), api.MaxNodes + 1, 3},
		{"many more", wide(2 * api.MaxNodes), api.MaxNodes + 1, 3},
		{"many, and then a chain", Node{Kids: append(make([]Node, 2*api.MaxNodes), chain(9))}, api.MaxNodes + 1, 10},
	} {
		if s, d := Size(c.n), Depth(c.n); s != c.size || d != c.depth {
			t.Errorf("%s: Size = %d, Depth = %d; want %d, %d", c.what, s, d, c.size, c.depth)
		}
	}
}

// P2.3: the names of kinds are those of the constants.
func TestName(t *testing.T) {
	for kind, want := range map[int]string{
		SNone: "SNone", SUnit: "SUnit", SExtension: "SExtension", SMods: "SMods", STParam: "STParam", SBody: "SBody", TName: "TName",
		TWild: "TWild", TCase: "TCase", XName: "XName", XInt: "XInt", XThis: "XThis", XFor: "XFor", SGuard: "SGuard", SCase: "SCase",
		SCases: "SCases", SLambdaParam: "SLambdaParam", XSplice: "XSplice", PWild: "PWild", PAlt: "PAlt",
		-1: "", Kinds: "", Kinds + 1: "", 1 << 62: "", -1 << 62: "",
	} {
		if got := Name(kind); got != want {
			t.Errorf("Name(%d) = %q, want %q", kind, got, want)
		}
	}
	seen := map[string]bool{}
	for k := range Kinds {
		if n := Name(k); n == "" || seen[n] || kindNamed(n) != k || !strings.HasPrefix(samples[k], "("+n) {
			t.Errorf("Name(%d) = %q", k, n)
		} else {
			seen[n] = true
		}
	}
	if kindNamed("") != -1 || kindNamed("XNam") != -1 || kindNamed("Kinds") != -1 {
		t.Error("kinds that are none have names")
	}
}

// P2.3: how many nodes have a kind.
func TestCount(t *testing.T) {
	n := shape(t, `(XBlock (XInfix "+" (XInt 1) (XName "x")) (XName "y") (XBlock) (XInt))`)
	for kind, want := range map[int]int{XBlock: 2, XInt: 2, XName: 2, XInfix: 1, XThis: 0, SNone: 0, -1: 0, Kinds: 0} {
		if got := Count(n, kind); got != want {
			t.Errorf("Count of %s = %d, want %d", Name(kind), got, want)
		}
	}
	if got := Count(Node{Kind: 99, Kids: []Node{{Kind: 99}, {Kind: -1}}}, 99); got != 2 {
		t.Errorf("Count of an unknown kind = %d", got)
	}
	for _, c := range []struct {
		what string
		n    Node
		kind int
		want int
	}{
		{"the longest chain", chain(api.MaxNest), XQuote, api.MaxNest - 1},
		{"a longer chain", chain(api.MaxNest + 1), XQuote, 0},
		{"a much longer chain", chain(api.MaxNest * 2), XName, 0},
		{"as many nodes as may be", wide(api.MaxNodes), XBlock, 101},
		{"a node more", wide(api.MaxNodes + 1), XBlock, 0},
	} {
		if got := Count(c.n, c.kind); got != c.want {
			t.Errorf("%s: Count = %d, want %d", c.what, got, c.want)
		}
	}
}

// P2.3: the different names, in order.
func TestNames(t *testing.T) {
	for _, c := range []struct {
		form string
		want []string
	}{
		{`(XThis)`, nil},
		{`(XName "b")`, []string{"b"}},
		{`(TApply (TName "b") (TName "a") (TSelect "c" (XName "d")) (TName "b"))`, []string{"a", "b", "d"}},
		{`(XBlock (XName "_b") (XName "b") (XName "B") (XName "+") (XName "b1") (XName "a") (XInfix "-" (XName "b") (XTyped (XThis) (TName "B"))))`,
			[]string{"+", "B", "_b", "a", "b", "b1"}},
		{`(SVal "a" (SMods) (SNone) (XString "c"))`, nil},
		{`(XSelect "a" (XSuper "b"))`, nil},
		{`(PBind "a" (PStable "b"))`, nil},
		{`(XName (TName "\xff") (XName "\x01"))`, []string{"", "\x01", "\xff"}},
	} {
		if got := Names(shape(t, c.form)); !slices.Equal(got, c.want) || c.want == nil && got != nil {
			t.Errorf("Names(%s) = %q, want %q", c.form, got, c.want)
		}
	}
	if got := Names(chain(api.MaxNest)); !slices.Equal(got, []string{"a"}) {
		t.Errorf("the longest chain: %q", got)
	}
	if got := Names(wide(api.MaxNodes)); !slices.Equal(got, []string{"a"}) {
		t.Errorf("as many nodes as may be: %q", got)
	}
	if l, m := Names(chain(api.MaxNest+1)), Names(wide(api.MaxNodes+1)); l != nil || m != nil {
		t.Errorf("beyond the limits: %q, %q", l, m)
	}
}

// P2.3: the Texts of XName and TName, and nothing else.
func TestRename(t *testing.T) {
	for _, c := range []struct{ form, from, to, want string }{
		{`(XName "a")`, "a", "b", `(XName "b")`},
		{`(TName "a")`, "a", "+", `(TName "+")`},
		{`(XName "a")`, "b", "c", `(XName "a")`},
		{`(XName "ab")`, "a", "c", `(XName "ab")`},
		{`(XName "a")`, "a", "", `(XName)`},
		{`(XName)`, "", "a b", `(XName "a b")`},
		{`(XName "a" 1 (XName "a" (TName "a")) (XName "b"))`, "a", "b", `(XName "b" 1 (XName "b" (TName "b")) (XName "b"))`},
		{`(XBlock (SVal "a" (SMods) (TName "a") (XSelect "a" (XName "a"))) (XString "a") (XNamed "a" (XThis)) (XInterp "a" (XString "a")))`, "a", "b",
			`(XBlock (SVal "a" (SMods) (TName "b") (XSelect "a" (XName "b"))) (XString "a") (XNamed "a" (XThis)) (XInterp "a" (XString "a")))`},
		{`(XMatch (XName "a") (SCase (PBind "a" (PStable "a")) (SNone) (XSuper "a")))`, "a", "b",
			`(XMatch (XName "b") (SCase (PBind "a" (PStable "a")) (SNone) (XSuper "a")))`},
	} {
		n := shape(t, c.form)
		got := Rename(n, c.from, c.to)
		if want := shape(t, c.want); !Equal(got, want) {
			t.Errorf("Rename(%s, %q, %q) = %v", c.form, c.from, c.to, got)
		}
		if !reflect.DeepEqual(n, shape(t, c.form)) {
			t.Errorf("Rename changed %s", c.form)
		}
	}
	n := shape(t, `(XQuote (XName "a"))`)
	if got := Rename(n, "a", "bc"); got.At != 0 || got.Kids[0].At != 8 {
		t.Errorf("Rename moved nodes: %v", got)
	}
}

// P2.3: beyond the limits Rename returns the tree as it is.
func TestRenameLimits(t *testing.T) {
	if got := Names(Rename(chain(api.MaxNest), "a", "b")); !slices.Equal(got, []string{"b"}) {
		t.Errorf("the longest chain: %q", got)
	}
	if got := Names(Rename(wide(api.MaxNodes), "a", "b")); !slices.Equal(got, []string{"b"}) {
		t.Errorf("as many nodes as may be: %q", got)
	}
	for _, make := range []func() Node{
		func() Node { return chain(api.MaxNest + 1) },
		func() Node { return chain(1 << 16) },
		func() Node { return wide(api.MaxNodes + 1) },
		func() Node { return Node{Kind: XName, Text: "a", Kids: wide(2 * api.MaxNodes).Kids} },
	} {
		n := make()
		got := Rename(n, "a", "b")
		if !Equal(got, make()) {
			t.Error("the tree is another one")
		}
		scribble(got.Kids)
		if !Equal(n, make()) {
			t.Error("the tree shares memory with the result")
		}
	}
}

// scribble changes all nodes of a list, and the memory behind its end.
func scribble(l []Node) {
	for i := range l {
		scribble(l[i].Kids)
		l[i] = Node{Kind: PAlt, Text: "?"}
	}
	l = l[:cap(l)]
	clear(l)
}

// R4: results share no memory with arguments, and no argument is changed.
func TestMemory(t *testing.T) {
	const form = `(SUnit (SVal "a" (SMods) (SNone) (XInfix "+" (XName "a") (XName "b"))) (SImport "a"))`
	all := append(shape(t, form).Kids, Node{Kind: XThis}) // a node behind the end of the list
	n := Node{Kind: SUnit, Kids: all[:2]}
	for _, to := range []string{"a", "c"} {
		got := Rename(n, "a", to)
		got.Kids = append(got.Kids, Node{Kind: XNull})
		scribble(got.Kids)
	}
	Check(n)
	Text(n)
	Equal(n, n)
	Names(n)[0] = "z"
	if !Equal(n, shape(t, form)) || all[2].Kind != XThis {
		t.Error("the argument was changed")
	}
	first, _ := Read(form)
	scribble(first.Kids)
	if second, f := Read(form); f.Code != api.OK || !Equal(second, n) {
		t.Error("two results share memory")
	}
}

// P1: lists that several nodes share, and lists that contain themselves.
func TestSharedLists(t *testing.T) {
	twice := func(levels int) Node {
		n := Node{Kind: XName, Text: "a"}
		for range levels - 1 {
			n = Node{Kind: XBlock, Kids: []Node{n, n}}
		}
		return n
	}
	for _, c := range []struct {
		what        string
		n           Node
		size, depth int
		code        api.Errno
	}{
		{"shared lists", twice(14), 1<<14 - 1, 14, api.OK},
		{"many shared lists", twice(api.MaxNest), api.MaxNodes + 1, api.MaxNest, api.ErrLimit},
		{"too many shared lists", twice(api.MaxNest + 1), api.MaxNodes + 1, api.MaxNest + 1, api.ErrDepth},
		{"a ring", ring(1), api.MaxNodes + 1, api.MaxNest + 1, api.ErrDepth},
		{"a double ring", ring(2), api.MaxNodes + 1, api.MaxNest + 1, api.ErrDepth},
	} {
		wantCheck(t, c.what, c.n, 0, c.code)
		if s, d := Size(c.n), Depth(c.n); s != c.size || d != c.depth {
			t.Errorf("%s: Size = %d, Depth = %d", c.what, s, d)
		}
		if c.code == api.OK {
			continue
		}
		wantTextError(t, c.what, c.n, c.code)
		if Count(c.n, XBlock) != 0 || Names(c.n) != nil || !Equal(Rename(c.n, "a", "b"), c.n) {
			t.Errorf("%s: Count = %d, Names = %q", c.what, Count(c.n, XBlock), Names(c.n))
		}
	}
	if !Equal(twice(60), twice(60)) || Equal(twice(60), twice(59)) || !Equal(ring(3), ring(3)) || Equal(ring(2), ring(3)) || Equal(ring(1), twice(60)) {
		t.Error("Equal of shared lists")
	}
	n := ring(2)
	scribbled := Rename(n, "a", "b")
	scribbled.Kids[0].Kids[1] = Node{}
	if !Equal(n, ring(2)) {
		t.Error("Rename of a ring shares its memory")
	}
}

// ring returns a node with a list in which each node has this list.
func ring(size int) Node {
	kids := make([]Node, size)
	for i := range kids {
		kids[i] = Node{Kind: XBlock, Kids: kids}
	}
	return Node{Kind: XBlock, Kids: kids}
}
