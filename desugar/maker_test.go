package desugar

import (
	"strings"

	"newel/api"
	"newel/syntax"
)

// maker makes right trees that look random.
type maker struct {
	dice
	rare int // one in so many places has what is a fault
}

// recipes has the Kids that nodes are given, as the words of kindsOf; behind
// them, * is any number, + one at least, ? that SNone may be in its place.
var recipes = map[int]string{
	syntax.SUnit: "D*", syntax.SClass: "SMods SNames SLists SParents SBody?", syntax.SDef: "SMods SNames SLists T? E?",
	syntax.SVal: "SMods T? E?", syntax.SType: "SMods SNames T? T? SNone", syntax.SGiven: "SMods SNames SLists T E",
	syntax.SExtension: "SNames SParam SDef+", syntax.SEnumCase: "SNames SLists SParents", syntax.SNames: "STParam*",
	syntax.STParam: "T? T? SNone*", syntax.SLists: "SParams*", syntax.SParams: "SParam*", syntax.SParam: "SMods T E?",
	syntax.SParents: "SParent*", syntax.SParent: "T E*", syntax.SBody: "S*", syntax.TSelect: "path", syntax.TApply: "T T+",
	syntax.TFunction: "T* T", syntax.TAnd: "T T", syntax.TOr: "T T", syntax.TSingle: "path", syntax.TWild: "T? T?",
	syntax.TLambda: "SNames T", syntax.TMatch: "T TCase+", syntax.TCase: "T T", syntax.XSelect: "E", syntax.XApply: "E E* XNamed*",
	syntax.XNamed: "E", syntax.XTypes: "E T+", syntax.XInfix: "E E", syntax.XPrefix: "E", syntax.XAssign: "L E",
	syntax.XInterp: "XString E XString E XString", syntax.XIf: "E E E?", syntax.XWhile: "E E", syntax.XFor: "SGenerator F* F* F* E",
	syntax.SGenerator: "P E", syntax.SBinding: "P E", syntax.SGuard: "E", syntax.XMatch: "E SCase+", syntax.SCase: "P E? E",
	syntax.XTry: "E SCases E?", syntax.SCases: "SCase*", syntax.XThrow: "E", syntax.XReturn: "E?", syntax.XLambda: "SLambdaParam* E",
	syntax.SLambdaParam: "T?", syntax.XBlock: "B*", syntax.XNew: "SParents SBody?", syntax.XTyped: "E T", syntax.XQuote: "E",
	syntax.XSplice: "E", syntax.PBind: "P", syntax.PTyped: "T", syntax.PLiteral: "literal", syntax.PApply: "P*", syntax.PAlt: "P P+",
}

// leaves has a kind without Kids, or with few of them, for some words.
var leaves = map[string]int{
	"D": syntax.SImport, "S": syntax.XName, "B": syntax.XName, "E": syntax.XName, "L": syntax.XName, "F": syntax.SGuard,
	"T": syntax.TName, "P": syntax.PWild, "path": syntax.XName, "literal": syntax.XInt,
}

// kindsOf returns the kinds that a word means: the name of one, or a letter as
// in the table of chapter 2; B is a statement of a block, L what is assigned, F
// an enumerator.
func (m *maker) kindsOf(word string) []int {
	var l []int
	for k := range syntax.Kinds {
		if syntax.Name(k) == word || m.means(word, k) {
			l = append(l, k)
		}
	}
	return l
}

// means reports whether a word that is no name means a kind.
func (m *maker) means(word string, k int) bool {
	rarely := m.roll(m.rare) == 0
	definition := syntax.SImport <= k && k <= syntax.SExtension || rarely && k == syntax.SEnumCase
	switch word {
	case "D":
		return definition
	case "S":
		return definition || isExpression(k)
	case "B":
		return k == syntax.SImport || k == syntax.SVal || isExpression(k) || rarely && definition
	case "E":
		return isExpression(k)
	case "L":
		return k == syntax.XName || k == syntax.XSelect || k == syntax.XApply || rarely && isExpression(k)
	case "F":
		return k == syntax.SGenerator || k == syntax.SBinding || k == syntax.SGuard
	case "T":
		return syntax.TName <= k && k <= syntax.TMatch
	case "P":
		return syntax.PWild <= k && k <= syntax.PAlt
	case "path":
		return k == syntax.XName || k == syntax.XThis || k == syntax.XSelect
	case "literal":
		return syntax.XInt <= k && k <= syntax.XUnit
	}
	return false
}

// tree makes a tree of one of the kinds that a word means, nested about as deep
// as a number tells.
func (m *maker) tree(word string, deep int) syntax.Node {
	kinds := m.kindsOf(word)
	k := kinds[m.roll(len(kinds))]
	if leaf, ok := leaves[word]; ok && deep <= 0 {
		k = leaf
	}
	n := syntax.Node{Kind: k, At: m.roll(1000)}
	m.dress(&n)
	recipe := recipes[k]
	if word == "path" && k == syntax.XSelect {
		recipe = "path"
	}
	for _, w := range m.words(recipe, deep) {
		n.Kids = append(n.Kids, m.tree(w, deep-1))
	}
	m.correct(&n)
	return n
}

// words returns the words of a recipe, as often as the dice tell.
func (m *maker) words(recipe string, deep int) []string {
	var words []string
	for _, item := range strings.Fields(recipe) {
		w := strings.TrimRight(item, "*+?")
		times := 1
		switch item[len(w):] {
		case "*":
			if times = m.roll(3); deep <= 0 {
				times = 0
			} else if w == "D" {
				times = 1 + m.roll(3)
			}
		case "+":
			times = 1 + m.roll(2)
		case "?":
			if m.roll(3) == 0 || deep <= 0 && m.roll(2) == 0 {
				w = "SNone"
			}
		}
		for range times {
			words = append(words, w)
		}
	}
	return words
}

// dress gives a node a Text and a Num.
func (m *maker) dress(n *syntax.Node) {
	word := m.pick("a", "b", "A", "Bc", "x_9", "_1", "_3", "_7")
	op := m.pick("+", "-", "*", "::", "+:", "|", "&&", "||", "==", "!=", "<", ":", "~", "^^")
	switch n.Kind {
	case syntax.SVal, syntax.SType, syntax.SEnumCase, syntax.STParam, syntax.SParam, syntax.TName, syntax.TSelect, syntax.XNamed, syntax.PBind:
		n.Text = word
	case syntax.XName, syntax.SClass, syntax.SDef, syntax.XSelect:
		n.Text = m.pick(word, word, op)
	case syntax.XInfix:
		n.Text = m.pick(op, op, op, op, word)
	case syntax.XPrefix:
		n.Text = m.pick("-", "!", "~", "+")
	case syntax.XAssign:
		n.Text = m.pick("=", "+=", "::=", "<<=", "&&=", "!==")
	case syntax.XInterp:
		n.Text = "s"
		if m.roll(m.rare) == 0 {
			n.Text = m.pick("f", "S", "ss")
		}
	case syntax.SImport:
		n.Text = m.pick("a", "a.b", "a.*", "A.b.*")
	case syntax.XString:
		n.Text = m.pick("", "", "\"", "\n\x00\xff", "$a", "_2")
	case syntax.SGiven, syntax.XSuper:
		n.Text = m.pick("", word)
	case syntax.SLambdaParam, syntax.PTyped:
		n.Text = m.pick("_", word)
	case syntax.PStable, syntax.PApply:
		n.Text = m.pick("A", "a.b", "a")
	}
	m.number(n)
}

// number gives a node a Num.
func (m *maker) number(n *syntax.Node) {
	switch n.Kind {
	case syntax.SMods:
		n.Num = []int64{0, 0, 0, api.Abstract, api.Private + api.Override, api.Sealed}[m.roll(6)]
		if m.roll(m.rare) == 0 {
			n.Num |= api.Final
		}
	case syntax.SClass:
		n.Num = int64(min(m.roll(9), enum))
	case syntax.SVal:
		n.Num = int64(m.roll(3))
	case syntax.SParams:
		if m.roll(m.rare) == 0 {
			n.Num = 1
		}
	case syntax.SParent, syntax.XApply, syntax.XFor:
		n.Num = int64(m.roll(2))
	case syntax.SDef:
		n.Num = int64(m.roll(8) / 7)
	case syntax.STParam:
		n.Num = []int64{api.Invariant, api.Covariant, api.Contravariant}[m.roll(3)]
	case syntax.SParam:
		n.Num = int64(m.roll(3) + 4*m.roll(3))
	case syntax.XInt, syntax.XLong, syntax.XChar:
		n.Num = int64(m.roll(256))
	}
}

// correct makes a node right, and most of what would be a fault.
func (m *maker) correct(n *syntax.Node) {
	switch n.Kind {
	case syntax.SClass:
		m.correctClass(n)
	case syntax.SVal:
		if n.Kids[2].Kind == syntax.SNone && m.roll(m.rare) != 0 {
			n.Kids[2] = m.tree("E", 0)
		}
	case syntax.SType:
		if m.roll(2) == 0 {
			n.Kids[2], n.Kids[3], n.Kids[4] = syntax.Node{}, syntax.Node{}, m.tree("T", 1)
		}
	case syntax.SParent:
		if n.Num == 0 {
			n.Kids = n.Kids[:1]
		}
	case syntax.SExtension:
		for i := range n.Kids[2:] {
			n.Kids[2+i].Num = 0
		}
	case syntax.XNew:
		if len(n.Kids[0].Kids) == 0 {
			n.Kids[0].Kids = []syntax.Node{m.tree("SParent", 1)}
		}
	case syntax.PBind:
		if n.Kids[0].Kind == syntax.PBind {
			n.Kids[0] = syntax.Node{Kind: syntax.PWild}
		}
	case syntax.PAlt:
		for i, k := range n.Kids {
			if k.Kind == syntax.PAlt {
				n.Kids[i] = k.Kids[0]
			}
		}
	case syntax.PLiteral:
		if k := n.Kids[0].Kind; (k == syntax.XInt || k == syntax.XLong) && m.roll(2) == 0 {
			n.Kids[0] = syntax.Node{Kind: syntax.XPrefix, Text: "-", Kids: []syntax.Node{n.Kids[0]}}
		}
	}
}

// correctClass gives most enums cases, and variances where those are objects.
func (m *maker) correctClass(n *syntax.Node) {
	if n.Num != enum || m.roll(m.rare) == 0 {
		return
	}
	n.Kids[4].Kind = syntax.SBody
	n.Kids[4].Kids = append(n.Kids[4].Kids, m.tree("SEnumCase", 1))
	if m.roll(2) == 0 {
		n.Kids[4].Kids = append([]syntax.Node{m.tree("SEnumCase", 1)}, n.Kids[4].Kids...)
	}
	for i := range n.Kids[1].Kids {
		if p := &n.Kids[1].Kids[i]; p.Num == 0 && m.roll(m.rare) != 0 {
			p.Num = api.Covariant
		}
	}
}
