package printer

import (
	"math"
	"strings"

	"newel/api"
	"newel/syntax"
)

// maker makes right trees that look random.
type maker struct {
	dice
	any    bool // also trees that no text has
	narrow bool // just one kid of each node is nested deeply
}

// recipes has the Kids that nodes are given, as the words of kindsOf; behind
// them, * is any number, + one at least, ? that SNone may be in its place.
var recipes = map[int]string{
	syntax.SUnit: "D*", syntax.SClass: "SMods SNames SLists SParents SBody?", syntax.SDef: "SMods SNames SLists T? E?",
	syntax.SVal: "SMods T? E?", syntax.SType: "SMods SNames T? T? SNone", syntax.SGiven: "SMods SNames SLists T E",
	syntax.SExtension: "SNames SParam SDef+", syntax.SEnumCase: "SNames SLists SParents", syntax.SNames: "STParam*",
	syntax.STParam: "T? T? SNone*", syntax.SLists: "SParams*", syntax.SParams: "SParam*", syntax.SParam: "SMods T E?",
	syntax.SParents: "SParent*", syntax.SParent: "T E*", syntax.SBody: "S*", syntax.TSelect: "path", syntax.TApply: "T A+",
	syntax.TFunction: "T* T", syntax.TAnd: "T T", syntax.TOr: "T T", syntax.TSingle: "path", syntax.TWild: "T? T?",
	syntax.TLambda: "SNames T", syntax.TMatch: "T TCase+", syntax.TCase: "T T", syntax.XSelect: "Q", syntax.XApply: "E E* XNamed*",
	syntax.XNamed: "E", syntax.XTypes: "E T+", syntax.XInfix: "E E", syntax.XPrefix: "E", syntax.XAssign: "E E",
	syntax.XInterp: "XString E XString E XString", syntax.XIf: "E E E?", syntax.XWhile: "E E", syntax.XFor: "SGenerator SBinding* SGuard* SGenerator* E",
	syntax.SGenerator: "P E", syntax.SBinding: "P E", syntax.SGuard: "E", syntax.XMatch: "E SCase+", syntax.SCase: "P E? E",
	syntax.XTry: "E SCases E?", syntax.SCases: "SCase*", syntax.XThrow: "E", syntax.XReturn: "E?", syntax.XLambda: "SLambdaParam* E",
	syntax.SLambdaParam: "T?", syntax.XBlock: "S*", syntax.XNew: "SParents SBody?", syntax.XTyped: "E T", syntax.XQuote: "B",
	syntax.XSplice: "B", syntax.PBind: "P", syntax.PTyped: "T", syntax.PLiteral: "literal", syntax.PApply: "P*", syntax.PAlt: "P P+",
}

// leaves has a kind without Kids, or with few of them, for some words.
var leaves = map[string]int{
	"D": syntax.SImport, "S": syntax.XName, "E": syntax.XName, "Q": syntax.XThis, "B": syntax.XBlock,
	"T": syntax.TName, "A": syntax.TName, "P": syntax.PWild, "path": syntax.XName, "literal": syntax.XInt,
}

// kindsOf returns the kinds that a word means: the name of one, or a letter as
// in the table of chapter 2; A is an argument of a type, Q what a member is
// selected from, B what is quoted.
func (m *maker) kindsOf(word string) []int {
	var l []int
	for k := range syntax.Kinds {
		if syntax.Name(k) == word || m.means(word, k) {
			l = append(l, k)
		}
	}
	return l
}

// means reports whether a word that is no name means a kind.
func (m *maker) means(word string, k int) bool {
	definition := syntax.SImport <= k && k <= syntax.SExtension || m.any && k == syntax.SEnumCase
	expression := isExpression(k) && (k != syntax.XSuper || m.any)
	typ := syntax.TName <= k && k <= syntax.TMatch && (k != syntax.TWild || m.any)
	switch word {
	case "D":
		return definition
	case "S":
		return definition || expression
	case "E":
		return expression
	case "Q":
		return expression || k == syntax.XSuper
	case "B":
		return k == syntax.XBlock || m.any && expression
	case "T":
		return typ
	case "A":
		return typ || k == syntax.TWild
	case "P":
		return syntax.PWild <= k && k <= syntax.PAlt
	case "path":
		return k == syntax.XName || k == syntax.XThis || k == syntax.XSelect
	case "literal":
		return syntax.XInt <= k && k <= syntax.XUnit
	}
	return false
}

// tree makes a tree of one of the kinds that a word means, nested about as deep
// as a number tells.
func (m *maker) tree(word string, deep int) syntax.Node {
	kinds := m.kindsOf(word)
	k := kinds[m.roll(len(kinds))]
	for m.narrow && deep > 0 && word != "literal" && recipes[k] == "" && len(kinds) > 1 {
		k = kinds[m.roll(len(kinds))]
	}
	if leaf, ok := leaves[word]; ok && deep <= 0 {
		k = leaf
	}
	n := syntax.Node{Kind: k, At: m.roll(9)}
	m.dress(&n)
	if word == "path" && k == syntax.XSelect && !m.any {
		n.Text = m.pick("a", "B")
	}
	words := m.words(k, word, deep)
	main := m.main(words)
	for i, w := range words {
		below := deep - 1
		if m.narrow && i != main {
			below = min(below, m.roll(2))
		}
		n.Kids = append(n.Kids, m.tree(w, below))
	}
	m.correct(&n)
	return n
}

// main returns the index of a word whose trees have Kids, if there is one.
func (m *maker) main(words []string) int {
	var l []int
	for i, w := range words {
		if kinds := m.kindsOf(w); w != "literal" && len(kinds) > 1 || recipes[kinds[0]] != "" {
			l = append(l, i)
		}
	}
	if len(l) == 0 {
		return -1
	}
	return l[m.roll(len(l))]
}

// words returns the words for the Kids of a node that was made for a word.
func (m *maker) words(kind int, of string, deep int) []string {
	recipe := recipes[kind]
	if of == "path" && kind == syntax.XSelect {
		recipe = "path"
	}
	var words []string
	for _, item := range strings.Fields(recipe) {
		w := strings.TrimRight(item, "*+?")
		times := 1
		switch item[len(w):] {
		case "*":
			times = m.roll(3)
			if m.narrow {
				times = 1
			}
			if deep <= 0 {
				times = 0
			}
		case "+":
			times = 1 + m.roll(2)
		case "?":
			if deep <= 0 || m.roll(2) == 0 && !m.narrow {
				w = "SNone"
			}
		}
		for range times {
			words = append(words, w)
		}
	}
	return words
}

// dress gives a node a Text and a Num.
func (m *maker) dress(n *syntax.Node) {
	word := m.pick("a", "b", "_1", "A", "Bc", "x_9")
	op := m.pick("+", "-", "*", "::", "+:", "|", "&&", "==", "<", "=>>", "~", "^^")
	if m.any && m.roll(12) == 0 {
		word = m.pick("if", "type", "true", "_x")
		op = m.pick("=", "<:", "+//", "/*", "=>", ":", "+=")
	}
	switch n.Kind {
	case syntax.SVal, syntax.SType, syntax.SEnumCase, syntax.STParam, syntax.SParam, syntax.TName, syntax.TSelect,
		syntax.XNamed, syntax.XInterp, syntax.PBind:
		n.Text = word
	case syntax.XName, syntax.SClass:
		n.Text = word
		if m.any && m.roll(12) == 0 {
			n.Text = op
		}
	case syntax.SDef, syntax.XSelect:
		n.Text = m.pick(word, op)
	case syntax.XInfix:
		n.Text = op
		if m.any && m.roll(12) == 0 {
			n.Text = word
		}
	case syntax.XPrefix:
		n.Text = m.pick("-", "!", "~", "+")
	case syntax.XAssign:
		n.Text = m.pick("=", "+=", "::=", "<<=")
		if m.any && m.roll(12) == 0 {
			n.Text = "//="
		}
	case syntax.SImport:
		n.Text = m.pick("a", "a.b", "a.*", "A.b.*")
		if m.any && m.roll(4) == 0 {
			n.Text = m.pick("*", "a.if", "if.*")
		}
	case syntax.XString:
		n.Text = m.pick("", "\"", "\\x", "\n\t\x00\xff", "$a", "1", "b", "_", "'{", " ")
	case syntax.SGiven, syntax.XSuper:
		n.Text = m.pick("", word)
	case syntax.SLambdaParam, syntax.PTyped:
		n.Text = m.pick("_", word)
	case syntax.PStable:
		n.Text = m.pick("A", "a.b", "A.B")
		if m.any && m.roll(4) == 0 {
			n.Text = m.pick("a", "_b", "A.if")
		}
	case syntax.PApply:
		n.Text = m.pick("A", "a.b", "a")
	}
	m.number(n)
}

// number gives a node a Num.
func (m *maker) number(n *syntax.Node) {
	switch n.Kind {
	case syntax.SMods:
		n.Num = []int64{0, 0, 0, api.Abstract, api.Private + api.Override, api.Inline + api.Volatile + api.Final + api.Sealed}[m.roll(6)]
	case syntax.SClass:
		n.Num = int64(m.roll(6))
	case syntax.SVal:
		n.Num = int64(m.roll(3))
	case syntax.SParams, syntax.SParent, syntax.XApply, syntax.XFor:
		n.Num = int64(m.roll(2))
	case syntax.SDef:
		if m.any && m.roll(12) == 0 {
			n.Num = 1
		}
	case syntax.STParam:
		n.Num = []int64{0, api.Covariant, api.Contravariant}[m.roll(3)]
	case syntax.SParam:
		n.Num = int64(m.roll(3) + 4*m.roll(3))
	case syntax.XInt:
		n.Num = []int64{0, 7, math.MaxInt32}[m.roll(3)]
	case syntax.XLong:
		n.Num = []int64{0, 7, math.MaxInt64}[m.roll(3)]
	case syntax.XChar:
		n.Num = int64(m.roll(256))
	}
}

// correct makes a node right, or one that a text has.
func (m *maker) correct(n *syntax.Node) {
	switch n.Kind {
	case syntax.SClass:
		m.correctClass(n)
	case syntax.SType:
		if m.roll(2) == 0 {
			n.Kids[2], n.Kids[3], n.Kids[4] = syntax.Node{}, syntax.Node{}, m.tree("T", 1)
		}
	case syntax.SGiven:
		if n.Text == "" && !m.any {
			n.Kids[1].Kids, n.Kids[2].Kids = nil, nil
		}
	case syntax.SParent:
		if n.Num == 0 {
			n.Kids = n.Kids[:1]
		}
	case syntax.SExtension:
		for i := range n.Kids[2:] {
			n.Kids[2+i].Num = 0
		}
	case syntax.TLambda:
		if len(n.Kids[0].Kids) == 0 && !m.any {
			n.Kids[0].Kids = []syntax.Node{m.tree("STParam", 0)}
		}
	case syntax.XNew:
		if len(n.Kids[0].Kids) == 0 {
			n.Kids[0].Kids = []syntax.Node{m.tree("SParent", 1)}
		}
	case syntax.PBind:
		if n.Kids[0].Kind == syntax.PBind {
			n.Kids[0] = syntax.Node{Kind: syntax.PWild}
		}
	case syntax.PAlt:
		for i, k := range n.Kids {
			if k.Kind == syntax.PAlt {
				n.Kids[i] = k.Kids[0]
			}
		}
	case syntax.PLiteral:
		if k := n.Kids[0].Kind; (k == syntax.XInt || k == syntax.XLong) && m.roll(2) == 0 {
			n.Kids[0] = syntax.Node{Kind: syntax.XPrefix, Text: "-", Kids: []syntax.Node{n.Kids[0]}}
		}
	}
}

// correctClass makes the node of a class one that a text has.
func (m *maker) correctClass(n *syntax.Node) {
	if n.Num == 5 && n.Kids[4].Kind == syntax.SBody {
		for range m.roll(3) {
			n.Kids[4].Kids = append(n.Kids[4].Kids, m.tree("SEnumCase", 1))
		}
	}
	if m.any {
		return
	}
	switch n.Num {
	case 2, 4:
		n.Kids[1].Kids, n.Kids[2].Kids = nil, nil
	case 5:
		n.Kids[4].Kind = syntax.SBody
	}
}
