package printer

import (
	"strings"
	"testing"

	"newel/api"
	"newel/syntax"
	"newel/tokens"
)

// Places in which some nodes have a text, and nowhere else.
const (
	anywhere = iota
	enumBody
	enumMember
	selected
	typeArgument
	path // of a type
)

// printable reports whether a text has a right tree that stands in a place, as
// the grammar of chapter 3 tells. The limits of texts are another matter.
func printable(n syntax.Node, place int) bool {
	for i, k := range n.Kids {
		if !printable(k, placeOf(n, i, place)) {
			return false
		}
	}
	switch n.Kind {
	case syntax.SEnumCase:
		return place == enumMember && isLetters(n.Text)
	case syntax.XSuper:
		return place == selected && (n.Text == "" || isLetters(n.Text))
	case syntax.TWild:
		return place == typeArgument
	case syntax.SClass:
		return isLetters(n.Text) && hasClassForm(n)
	case syntax.SDef:
		return n.Num == 0 && (isLetters(n.Text) || isOperator(n.Text))
	case syntax.SGiven:
		return isLetters(n.Text) || n.Text == "" && len(n.Kids[1].Kids)+len(n.Kids[2].Kids) == 0
	case syntax.XSelect:
		return isLetters(n.Text) || place != path && isOperator(n.Text)
	case syntax.XInfix:
		return isOperator(n.Text) && !tokens.Assigns(n.Text)
	case syntax.XAssign:
		return n.Text == "=" || isOperator(n.Text)
	case syntax.TLambda:
		return len(n.Kids[0].Kids) > 0
	case syntax.XQuote, syntax.XSplice:
		return n.Kids[0].Kind == syntax.XBlock
	}
	return hasNames(n)
}

// placeOf returns the place of a kid of a node that stands in a place.
func placeOf(n syntax.Node, i, place int) int {
	switch {
	case n.Kind == syntax.SClass && n.Num == 5:
		return enumBody
	case n.Kind == syntax.SBody && place == enumBody:
		return enumMember
	case n.Kind == syntax.TSelect, n.Kind == syntax.TSingle, n.Kind == syntax.XSelect && place == path:
		return path
	case n.Kind == syntax.XSelect:
		return selected
	case n.Kind == syntax.TApply && i > 0:
		return typeArgument
	}
	return anywhere
}

func hasClassForm(n syntax.Node) bool {
	switch n.Num {
	case 2, 4:
		return len(n.Kids[1].Kids)+len(n.Kids[2].Kids) == 0
	case 5:
		return n.Kids[4].Kind == syntax.SBody
	}
	return true
}

// hasNames reports whether the Text of a node is made of names, as far as it has
// to be.
func hasNames(n syntax.Node) bool {
	names := strings.Split(n.Text, ".")
	switch n.Kind {
	case syntax.SVal, syntax.SType, syntax.STParam, syntax.SParam, syntax.TName, syntax.TSelect, syntax.XName,
		syntax.XNamed, syntax.XInterp, syntax.PBind:
	case syntax.SLambdaParam, syntax.PTyped:
		if n.Text == "_" {
			return true
		}
	case syntax.SImport:
		if last := len(names) - 1; last > 0 && names[last] == "*" {
			names = names[:last]
		}
	case syntax.PStable:
		if len(names) == 1 && (n.Text[0] == '_' || strings.ToLower(n.Text[:1]) == n.Text[:1]) {
			return false
		}
	case syntax.PApply:
	default:
		return true
	}
	for _, name := range names {
		if !isLetters(name) {
			return false
		}
	}
	return true
}

// isLetters reports whether a name is the text of a Name.
func isLetters(name string) bool {
	return name != "" && strings.Trim(name[:1], signs+"*") != "" && !tokens.Keyword(name)
}

// isOperator reports whether a name is the text of an Op.
func isOperator(name string) bool {
	marks := " = => <- : <: >: "
	return strings.Trim(name, signs) == "" && !strings.Contains(marks, " "+name+" ") &&
		!strings.Contains(name, "//") && !strings.Contains(name, "/*")
}

// P4.1, P4.3, P4.4: trees of all kinds that texts have, in all styles.
func TestPrintableTrees(t *testing.T) {
	m := &maker{dice: 1}
	words := []string{"SUnit", "E", "T", "P"}
	for i := range 4000 {
		n := m.tree(words[i%4], 1+m.roll(7))
		if f := syntax.Check(n); f != (api.Fault{}) {
			t.Fatalf("the tree %.2000s is not right: %v", form(n), f)
		}
		if !printable(n, anywhere) {
			t.Fatalf("no text has the tree %.2000s", form(n))
		}
		if syntax.Size(n) < 1500 {
			wantTexts(t, n)
		}
	}
}

// P4.1, P4.3: right trees: those that no text has are ErrForm, and no others.
func TestRightTrees(t *testing.T) {
	m := &maker{dice: 2, any: true}
	words := []string{"SUnit", "E", "T", "P"}
	texts, errors := 0, 0
	for i := range 8000 {
		n := m.tree(words[i%4], 1+m.roll(4))
		if f := syntax.Check(n); f != (api.Fault{}) || syntax.Size(n) > 1000 {
			continue
		}
		if printable(n, anywhere) {
			wantTexts(t, n)
			texts++
		} else {
			wantError(t, form(n), n, api.ErrForm)
			errors++
		}
	}
	if texts < 1000 || errors < 1000 {
		t.Errorf("%d trees have a text, %d have none", texts, errors)
	}
}

// P4.1, P4.3: trees as deep as those of short texts that must be printed.
func TestDeepTrees(t *testing.T) {
	m := &maker{dice: 3, narrow: true}
	words := []string{"SUnit", "E", "T", "P"}
	deep := 0
	for i := range 3000 {
		n := m.tree(words[i%4], 20+m.roll(10))
		text, e := Print(n, Braces)
		if syntax.Depth(n) > 30 || e == api.OK && len(strings.Join(strings.Fields(text), " ")) > 1500 {
			continue
		}
		if syntax.Depth(n) > 26 {
			deep++
		}
		wantTexts(t, n)
	}
	if deep < 500 {
		t.Errorf("just %d trees are deep", deep)
	}
}
