package syntax

import (
	"math"
	"slices"
	"strings"
	"testing"

	"newel/api"
)

// maker makes right trees that look random.
type maker struct {
	dice
	left int // how many nodes it may still make
}

// kinds of nodes, by the word for them in a form of the maker.
func kindsFor(word string) []int {
	var l []int
	for k := range Kinds {
		n := Name(k)
		switch {
		case word == n,
			word == "D" && k >= SImport && k <= SEnumCase,
			word == "T" && n[0] == 'T' && k != TCase,
			word == "E" && n[0] == 'X' && k != XNamed,
			word == "P" && n[0] == 'P',
			word == "S" && (k >= SImport && k <= SEnumCase || n[0] == 'X' && k != XNamed):
			l = append(l, k)
		}
	}
	return l
}

// recipes has the Kids of the table once more, as words that are easy to make:
// "D*" is any number, "T+" one at least, "E?" may be SNone.
var recipes = [Kinds]string{
	SUnit: "D*", SClass: "SMods SNames SLists SParents SBody?", SDef: "SMods SNames SLists T? E?", SVal: "SMods T? E?",
	SType: "SMods SNames T? T? SNone", SGiven: "SMods SNames SLists T E", SExtension: "SNames SParam SDef+", SEnumCase: "SNames SLists SParents",
	SNames: "STParam*", STParam: "T? T? SNone*", SLists: "SParams*", SParams: "SParam*", SParam: "SMods T E?", SParents: "SParent*",
	SParent: "T E*", SBody: "S*", TSelect: "XThis", TApply: "T T+", TFunction: "T* T", TAnd: "T T", TOr: "T T", TSingle: "XName",
	TWild: "T? T?", TLambda: "SNames T", TMatch: "T TCase+", TCase: "T T", XSelect: "E", XApply: "E E* XNamed*", XNamed: "E",
	XTypes: "E T+", XInfix: "E E", XPrefix: "E", XAssign: "E E", XInterp: "XString", XIf: "E E E?", XWhile: "E E",
	XFor: "SGenerator SBinding* SGuard* SGenerator* E", SGenerator: "P E", SBinding: "P E", SGuard: "E", XMatch: "E SCase+",
	SCase: "P E? E", XTry: "E SCases E?", SCases: "SCase*", XThrow: "E", XReturn: "E?", XLambda: "SLambdaParam* E", SLambdaParam: "T?",
	XBlock: "S*", XNew: "SParents SBody?", XTyped: "E T", XQuote: "E", XSplice: "E", PBind: "PWild", PTyped: "T", PLiteral: "XLong",
	PApply: "P*", PAlt: "PBind PTyped+",
}

var randomTexts = []string{"a", "b", "_1", "aB_9", "c"}

// tree makes a tree of one of the kinds that a word means.
func (m *maker) tree(word string, level int) Node {
	kinds := kindsFor(word)
	k := kinds[m.roll(len(kinds))]
	if m.left < 0 || level > 40 { // an end: kinds that need no more nodes
		k = map[string]int{"D": SImport, "S": XThis, "E": XNull, "T": TName, "P": PWild}[word]
		if len(kinds) == 1 {
			k = kinds[0]
		}
	}
	m.left--
	n := Node{Kind: k, At: m.roll(9)}
	m.dress(&n)
	for _, item := range strings.Fields(recipes[k]) {
		kind := strings.TrimRight(item, "*+?")
		times := 1
		switch item[len(kind):] {
		case "*":
			times = m.roll(3)
		case "+":
			times = 1 + m.roll(2)
		case "?":
			if m.roll(2) == 0 {
				kind = "SNone"
			}
		}
		if m.left < 0 && strings.HasSuffix(item, "*") {
			times = 0
		} else if m.left < 0 && strings.HasSuffix(item, "?") {
			kind = "SNone"
		}
		for range times {
			n.Kids = append(n.Kids, m.tree(kind, level+1))
		}
	}
	m.correct(&n)
	return n
}

// dress gives a node a Text and a Num.
func (m *maker) dress(n *Node) {
	text := m.pick(randomTexts...)
	if wantText(n.Kind, textCase{"a", isAWord | isAPath | isAnImport}) == api.OK {
		n.Text = text
	}
	switch n.Kind {
	case XInfix, XName, XSelect, SClass, SDef:
		n.Text = m.pick(text, "+", "::", "*=")
	case XPrefix:
		n.Text = m.pick("-", "!", "~", "+")
	case XAssign:
		n.Text = m.pick("=", "+=", "::=")
	case SImport:
		n.Text = m.pick("a", "a.b", "a.*")
	case XString:
		n.Text = m.pick("", "\"", "\\x", "\n\t\x00\xff", "é")
	case SGiven, XSuper:
		n.Text = m.pick("", text)
	case SLambdaParam, PTyped:
		n.Text = m.pick("_", text)
	case SMods:
		n.Num = int64([]int{0, api.Abstract, api.Private + api.Override, api.Inline + api.Volatile}[m.roll(4)])
	case XInt:
		n.Num = int64([]int{0, 1, 10, math.MaxInt32}[m.roll(4)])
	case XLong:
		n.Num = []int64{0, 9, math.MaxInt32 + 1, math.MaxInt64}[m.roll(4)]
	case XChar:
		n.Num = int64(m.roll(256))
	}
	if l := nums[n.Kind]; l != nil {
		n.Num = l[m.roll(len(l))]
	}
}

// correct makes right what the recipes do not say.
func (m *maker) correct(n *Node) {
	switch n.Kind {
	case SParent:
		if len(n.Kids) > 1 {
			n.Num = 1
		}
	case SExtension:
		for i := range n.Kids[2:] {
			n.Kids[2+i].Num = 0
		}
	case XNew:
		if len(n.Kids[0].Kids) == 0 {
			n.Kids[0].Kids = []Node{{Kind: SParent, Kids: []Node{{Kind: TName, Text: "A"}}}}
		}
	}
}

// someTree makes a tree of any kind.
func someTree(d *dice) Node {
	m := maker{*d, 1 + d.roll(200)}
	for {
		n := m.tree(Name(m.roll(Kinds)), 1)
		if Depth(n) <= api.MaxNest {
			*d = m.dice
			return n
		}
	}
}

// P2.4: Read of Text is an equal tree, and Text of Read is the text.
func TestTextAndRead(t *testing.T) {
	d := dice(1)
	seen := [Kinds]int{}
	for range 4000 {
		n := someTree(&d)
		wantCheck(t, "a tree", n, 0, api.OK)
		form, e := Text(n)
		if e != api.OK {
			t.Fatalf("Text: %v", e)
		}
		again, f := Read(form)
		if f != (api.Fault{}) || !Equal(again, n) {
			t.Fatalf("Read(%s): %v", form, f)
		}
		if twice, e := Text(again); twice != form || e != api.OK {
			t.Fatalf("Text of Read of %s = %s, %v", form, twice, e)
		}
		for x := range preorder(&n) {
			seen[x.Kind]++
		}
	}
	for k, count := range seen {
		if count < 50 {
			t.Errorf("only %d nodes of the kind %s", count, Name(k))
		}
	}
}

// P2.4: whatever text Read accepts is the text of the tree.
func TestReadOfAnyText(t *testing.T) {
	d := dice(2)
	accepted := 0
	pieces := []string{"(", ")", " ", "\"", "\\", "a", "0", "1", "-", "(XThis)", " (XThis)", "\\x0a", "\\x00", "\\\"", "\n", "XName", "S", "\xff", "+"}
	for range 40000 {
		form := samples[d.roll(Kinds)]
		for range d.roll(3) {
			at := d.roll(len(form) + 1)
			form = form[:at] + d.pick(pieces...) + form[min(len(form), at+d.roll(3)):]
		}
		n, f := Read(form)
		if f.Code != api.OK {
			if !isZero(n) || f.At < 0 || f.At > len(form) {
				t.Fatalf("Read(%q) = %v, %v", form, n, f)
			}
			continue
		}
		accepted++
		if again, e := Text(n); again != form || e != api.OK {
			t.Fatalf("Text of Read(%q) = %q, %v", form, again, e)
		}
	}
	if accepted < 1000 {
		t.Errorf("only %d texts were accepted", accepted)
	}
}

// P2.4: Equal is an equivalence.
func TestEquivalence(t *testing.T) {
	d := dice(3)
	var l []Node
	for range 30 {
		n := someTree(&d)
		l = append(l, n, Rename(n, "a", "b"), Rename(n, "?", "!"))
	}
	equal := 0
	for _, a := range l {
		for _, b := range l {
			ab := Equal(a, b)
			if ab != Equal(b, a) || ab != sameForm(t, a, b) {
				t.Fatal("not symmetric, or not equality of the text forms")
			}
			if !ab {
				continue
			}
			equal++
			for _, c := range l {
				if Equal(b, c) != Equal(a, c) {
					t.Fatal("not transitive")
				}
			}
		}
		if !Equal(a, a) {
			t.Fatal("not reflexive")
		}
	}
	if equal <= 2*len(l)/3 {
		t.Errorf("only %d equal pairs", equal)
	}
}

func sameForm(t *testing.T, a, b Node) bool {
	t.Helper()
	x, e := Text(a)
	y, f := Text(b)
	if e != api.OK || f != api.OK {
		t.Fatalf("Text: %v, %v", e, f)
	}
	return x == y
}

// P2.4: Size is 1 plus the sizes of the Kids; so are Depth and Count.
func TestSums(t *testing.T) {
	d := dice(4)
	for range 500 {
		n := someTree(&d)
		size, depth, names := 1, 0, 0
		for _, k := range n.Kids {
			size += Size(k)
			depth = max(depth, Depth(k))
			names += Count(k, XName)
		}
		if n.Kind == XName {
			names++
		}
		if Size(n) != size || Depth(n) != depth+1 || Count(n, XName) != names {
			t.Fatalf("Size = %d, Depth = %d, Count = %d; want %d, %d, %d", Size(n), Depth(n), Count(n, XName), size, depth+1, names)
		}
		all := 0
		for k := range Kinds {
			all += Count(n, k)
		}
		if all != size {
			t.Fatalf("%d nodes of all kinds of %d", all, size)
		}
	}
}

// P2.4: renaming there and back is nothing, where the new name does not occur.
func TestRenameAndBack(t *testing.T) {
	d := dice(5)
	renamed := 0
	for range 500 {
		n := someTree(&d)
		from := d.pick(randomTexts...)
		there := Rename(n, from, "new")
		names := Names(n)
		if slices.Contains(names, from) {
			renamed++
			names = slices.DeleteFunc(names, func(s string) bool { return s == from })
			names = append(names, "new")
			slices.Sort(names)
		}
		if got := Names(there); !slices.Equal(got, names) {
			t.Fatalf("Names of the renamed tree: %q, want %q", got, names)
		}
		if back := Rename(there, "new", from); !Equal(back, n) {
			t.Fatalf("renaming %s there and back is something", from)
		}
	}
	if renamed < 50 {
		t.Errorf("only %d trees were renamed", renamed)
	}
}

// P1: any nodes, right or not: one fault, in place, and no panic.
func TestAnyNodes(t *testing.T) {
	d := dice(6)
	wrong := 0
	for range 4000 {
		n := someTree(&d)
		for range d.roll(4) {
			spoil(&n, &d)
		}
		f := Check(n)
		if f.At < 0 || f.At >= Size(n) || f.Code == api.OK && f.At != 0 {
			t.Fatalf("Check = %v of %d nodes", f, Size(n))
		}
		form, e := Text(n)
		if e != f.Code || e != api.OK && form != "" {
			t.Fatalf("Text = %q, %v; want %v", form, e, f.Code)
		}
		if f.Code != api.OK {
			wrong++
			checkFirst(t, n, f)
		}
		Names(Rename(n, "a", "b"))
	}
	if wrong < 1000 {
		t.Errorf("only %d wrong trees", wrong)
	}
}

// checkFirst checks that the node of a fault is wrong for itself, and none in
// front of it.
func checkFirst(t *testing.T, n Node, f api.Fault) {
	t.Helper()
	at := 0
	for x := range preorder(&n) {
		if at == f.At {
			if got := Check(*x); got != (api.Fault{Code: f.Code}) {
				t.Fatalf("the fault is %v, that of the node %v", f, got)
			}
			return
		}
		if got := Check(*x); got.At == 0 && got.Code != api.OK {
			t.Fatalf("the fault is %v, but the node %d has %v", f, at, got)
		}
		at++
	}
}

// spoil changes a node of a tree.
func spoil(n *Node, d *dice) {
	for len(n.Kids) > 0 && d.roll(3) > 0 {
		n = &n.Kids[d.roll(len(n.Kids))]
	}
	switch d.roll(6) {
	case 0:
		n.Kind = d.roll(Kinds+2) - 1
	case 1:
		n.Text = d.pick("", "_", "1", "a b", "+=", strings.Repeat("a", 65), "\xff")
	case 2:
		n.Num = []int64{0, 1, 3, 32, -1, 1 << 40, math.MinInt64}[d.roll(7)]
	case 3:
		n.Kids = n.Kids[:d.roll(len(n.Kids)+1)]
	case 4:
		n.Kids = append(n.Kids, Node{Kind: d.roll(Kinds)})
	case 5:
		n.Kids = append([]Node{{Kind: d.roll(Kinds + 1)}}, n.Kids...)
	}
}
