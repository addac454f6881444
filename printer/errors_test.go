package printer

import (
	"strings"
	"testing"

	"newel/api"
	"newel/parser"
	"newel/syntax"
)

// chain nests a tree in nodes with it as their only kid.
func chain(n syntax.Node, levels int, node syntax.Node) syntax.Node {
	for range levels {
		outer := node
		outer.Kids = []syntax.Node{n}
		n = outer
	}
	return n
}

func text(kind int, text string, kids ...syntax.Node) syntax.Node {
	return syntax.Node{Kind: kind, Text: text, Kids: kids}
}

// unitOf returns a unit of values.
func unitOf(values ...syntax.Node) syntax.Node {
	n := syntax.Node{Kind: syntax.SUnit}
	for _, v := range values {
		n.Kids = append(n.Kids, text(syntax.SVal, "a", syntax.Node{Kind: syntax.SMods}, syntax.Node{}, v))
	}
	return n
}

// P4.1: styles that there are not.
func TestNoStyle(t *testing.T) {
	for _, style := range []int{-1, Styles, Styles + 1, 1 << 40, -1 << 40} {
		for _, n := range []syntax.Node{{Kind: -1}, {Kind: syntax.SMods}, {Kind: syntax.XSuper}, {Kind: syntax.XThis}, {Kind: syntax.SUnit}} {
			if s, e := Print(n, style); s != "" || e != api.ErrRange {
				t.Errorf("Print(%v, %d) = %q, %d", n, style, s, e)
			}
		}
	}
}

// P4.1, P4.3: the code of syntax.Check comes in front of other errors.
func TestWrongTrees(t *testing.T) {
	super := syntax.Node{Kind: syntax.XSuper}
	self := []syntax.Node{{Kind: syntax.XBlock}}
	self[0].Kids = self
	wide := syntax.Node{Kind: syntax.XBlock}
	for range 200 {
		kid := syntax.Node{Kind: syntax.XBlock}
		for range 100 {
			kid.Kids = append(kid.Kids, super)
		}
		wide.Kids = append(wide.Kids, kid)
	}
	for _, c := range []struct {
		what string
		n    syntax.Node
		want api.Errno
	}{
		{"an unknown kind", syntax.Node{Kind: syntax.Kinds}, api.ErrKind},
		{"an unknown kind", syntax.Node{Kind: -1}, api.ErrKind},
		{"a node that contains itself", self[0], api.ErrDepth},
		{"too deep", chain(super, api.MaxNest, syntax.Node{Kind: syntax.XThrow}), api.ErrDepth},
		{"too wide", wide, api.ErrLimit},
		{"no name", text(syntax.XName, "1"), api.ErrName},
		{"a wrong number", syntax.Node{Kind: syntax.XInt, Num: -1}, api.ErrRange},
		{"a text", text(syntax.SMods, "a"), api.ErrInvalid},
		{"no kids", syntax.Node{Kind: syntax.XInfix, Text: "+", Kids: []syntax.Node{super}}, api.ErrForm},
		{"a definition that is no unit", text(syntax.SVal, ""), api.ErrName},
		{"a wrong node behind one that no text has", syntax.Node{Kind: syntax.XBlock, Kids: []syntax.Node{super, {Kind: syntax.XChar, Num: 256}}}, api.ErrRange},
		{"a wrong unit", syntax.Node{Kind: syntax.SUnit, Num: 1}, api.ErrInvalid},
	} {
		wantError(t, c.what, c.n, c.want)
	}
}

// P4.1, P4.3: roots that are no unit, expression, type or pattern.
func TestRoots(t *testing.T) {
	parts := " SNone SImport SClass SDef SVal SType SGiven SExtension SEnumCase SMods SNames STParam SLists SParams SParam SParents SParent SBody TCase XNamed SGenerator SBinding SGuard SCase SCases SLambdaParam "
	for kind := range syntax.Kinds {
		m := &maker{dice: dice(kind)}
		n := m.tree(syntax.Name(kind), 3)
		if f := syntax.Check(n); f != (api.Fault{}) {
			t.Fatalf("%s: %v", form(n), f)
		}
		switch {
		case strings.Contains(parts, " "+syntax.Name(kind)+" "):
			wantError(t, form(n), n, api.ErrKind)
		case kind == syntax.XSuper || kind == syntax.TWild:
			wantError(t, form(n), n, api.ErrForm)
		default:
			wantTexts(t, n)
		}
	}
	if s, e := Line(syntax.Node{Kind: syntax.SUnit}); s != "" || e != api.ErrKind {
		t.Errorf("Line of a unit: %q, %d", s, e)
	}
	if s, e := Line(unitOf(syntax.Node{Kind: syntax.XSuper})); s != "" || e != api.ErrKind {
		t.Errorf("Line of a unit that no text has: %q, %d", s, e)
	}
}

// P4.1: trees that no text has.
func TestNoText(t *testing.T) {
	for _, form := range []string{
		`(XSuper)`, `(XSuper "A")`, `(XApply (XSuper))`, `(XInfix "+" (XThis) (XSuper))`, `(XSelect "a" (XSuper "if"))`, `(XInterp "s" (XString) (XSuper) (XString))`,
		`(XName "if")`, `(XName "+")`, `(XName "=")`, `(XSelect "class" (XThis))`, `(XSelect "=" (XThis))`, `(XSelect "+//" (XThis))`,
		`(XInfix "a" (XThis) (XThis))`, `(XInfix "+=" (XThis) (XThis))`, `(XInfix "=" (XThis) (XThis))`, `(XInfix "<-" (XThis) (XThis))`, `(XInfix "//" (XThis) (XThis))`,
		`(XInfix "+/*" (XThis) (XThis))`, `(XAssign "//=" (XThis) (XThis))`, `(XInterp "if" (XString))`, `(XInterp "s" (XString) (XName "then") (XString))`,
		`(XApply (XThis) (XNamed "val" (XThis)))`, `(XLambda (SLambdaParam "do" (SNone)) (XThis))`, `(XQuote (XThis))`, `(XSplice (XName "a"))`,
		`(XTypes (XThis) (TWild (SNone) (SNone)))`, `(XTyped (XThis) (TWild (SNone) (SNone)))`,
		`(TWild (SNone) (SNone))`, `(TName "type")`, `(TAnd (TName "A") (TWild (SNone) (SNone)))`, `(TApply (TWild (SNone) (SNone)) (TName "A"))`, `(TLambda (SNames) (TName "A"))`,
		`(TSelect "A" (XName "+"))`, `(TSelect "A" (XSelect "+" (XThis)))`, `(TSelect "object" (XThis))`, `(TSingle (XSelect "::" (XName "a")))`, `(TSingle (XName "new"))`,
		`(PStable "a")`, `(PStable "_a")`, `(PStable "true")`, `(PStable "A.type")`, `(PApply "a.if")`, `(PBind "if" (PWild))`, `(PTyped "else" (TName "A"))`,
		`(SUnit (SImport "*"))`, `(SUnit (SImport "a.if"))`, `(SUnit (SImport "val.*"))`, `(SUnit (SEnumCase "A" (SNames) (SLists) (SParents)))`,
		`(SUnit (SClass "+" (SMods) (SNames) (SLists) (SParents) (SNone)))`, `(SUnit (SClass "with" (SMods) (SNames) (SLists) (SParents) (SNone)))`,
		`(SUnit (SClass "A" 2 (SMods) (SNames (STParam "B" (SNone) (SNone))) (SLists) (SParents) (SNone)))`, `(SUnit (SClass "A" 4 (SMods) (SNames) (SLists (SParams)) (SParents) (SNone)))`,
		`(SUnit (SClass "A" 5 (SMods) (SNames) (SLists) (SParents) (SNone)))`, `(SUnit (SClass "A" (SMods) (SNames) (SLists) (SParents) (SBody (SEnumCase "B" (SNames) (SLists) (SParents)))))`,
		`(SUnit (SClass "A" 5 (SMods) (SNames) (SLists) (SParents) (SBody (SEnumCase "if" (SNames) (SLists) (SParents)))))`,
		`(SUnit (SClass "A" 5 (SMods) (SNames) (SLists) (SParents) (SBody (XBlock (SEnumCase "B" (SNames) (SLists) (SParents))))))`,
		`(XNew (SParents (SParent (TName "A"))) (SBody (SEnumCase "B" (SNames) (SLists) (SParents))))`,
		`(SUnit (SDef "f" 1 (SMods) (SNames) (SLists) (SNone) (SNone)))`, `(SUnit (SDef "=" (SMods) (SNames) (SLists) (SNone) (SNone)))`, `(SUnit (SDef "do" (SMods) (SNames) (SLists) (SNone) (SNone)))`,
		`(SUnit (SVal "this" (SMods) (SNone) (SNone)))`, `(SUnit (SType "trait" (SMods) (SNames) (SNone) (SNone) (SNone)))`, `(SUnit (SType "A" (SMods) (SNames (STParam "given" (SNone) (SNone))) (SNone) (SNone) (SNone)))`,
		`(SUnit (SGiven "try" (SMods) (SNames) (SLists) (TName "A") (XThis)))`, `(SUnit (SGiven (SMods) (SNames) (SLists (SParams)) (TName "A") (XThis)))`,
		`(SUnit (SGiven (SMods) (SNames (STParam "A" (SNone) (SNone))) (SLists) (TName "A") (XThis)))`, `(SUnit (SDef "f" (SMods) (SNames) (SLists (SParams (SParam "for" (SMods) (TName "A") (SNone)))) (SNone) (SNone)))`,
	} {
		wantError(t, form, shape(t, form), api.ErrForm)
	}
}

// P4.1: trees of which texts are beyond what the parser reads.
func TestNoTextForLimits(t *testing.T) {
	args := syntax.Node{Kind: syntax.XApply, Kids: []syntax.Node{text(syntax.XName, "f")}}
	for range 80 {
		args.Kids = append(args.Kids, text(syntax.XName, "a"))
	}
	rows := syntax.Node{Kind: syntax.XBlock}
	for range 124 {
		rows.Kids = append(rows.Kids, args)
	}
	for what, n := range map[string]syntax.Node{
		"too many brackets":             chain(syntax.Node{Kind: syntax.XBlock}, api.MaxNest-1, syntax.Node{Kind: syntax.XBlock}),
		"too many prefixes in brackets": chain(syntax.Node{Kind: syntax.XThis}, api.MaxNest-1, text(syntax.XPrefix, "-")),
		"too many tokens":               rows,
	} {
		if f := syntax.Check(n); f != (api.Fault{}) {
			t.Errorf("%s: not right, %v", what, f)
		}
		wantError(t, what, n, api.ErrForm)
	}
	rows.Kids = rows.Kids[:122]
	wantTexts(t, rows)
	for _, n := range []syntax.Node{
		chain(syntax.Node{Kind: syntax.XBlock}, api.MaxNest-2, syntax.Node{Kind: syntax.XBlock}),
		chain(text(syntax.XName, "a"), api.MaxNest-1, text(syntax.XSelect, "+")),
		chain(syntax.Node{Kind: syntax.XThis}, api.MaxNest-1, syntax.Node{Kind: syntax.XThrow}),
		chain(syntax.Node{Kind: syntax.XThis}, 40, text(syntax.XPrefix, "-")),
	} {
		wantTexts(t, n)
	}
}

// P4.1, P4.3: texts that are too long, and those that are just not.
func TestTooLong(t *testing.T) {
	str := func(size int) syntax.Node { return text(syntax.XString, strings.Repeat("a", size)) }
	for size, want := range map[int]api.Errno{api.MaxText - 3: api.OK, api.MaxText - 2: api.OK, api.MaxText - 1: api.ErrLimit, api.MaxText: api.ErrLimit} {
		if want != api.OK {
			wantError(t, "a long string", str(size), want)
			continue
		}
		wantTexts(t, str(size))
	}
	wantTexts(t, unitOf(str(60000)))
	wantError(t, "a long unit", unitOf(str(30000), str(30000), str(30000)), api.ErrLimit)
	wantError(t, "escapes", text(syntax.XString, strings.Repeat("\x00", 20000)), api.ErrLimit)
	wantTexts(t, text(syntax.XString, strings.Repeat("\x00", 16000)))
	wantError(t, "a long part", text(syntax.XInterp, "s", str(api.MaxText)), api.ErrLimit)
	wantError(t, "a first part that is long", text(syntax.XInterp, "s", str(65000), str(1), str(65000)), api.ErrLimit)
	many := syntax.Node{Kind: syntax.XBlock}
	for range 200 {
		many.Kids = append(many.Kids, syntax.Node{Kind: syntax.XBlock})
		for range 90 {
			last := &many.Kids[len(many.Kids)-1]
			last.Kids = append(last.Kids, text(syntax.XString, strings.Repeat("b", api.MaxText)))
		}
	}
	wantError(t, "very many long strings", many, api.ErrLimit)
}

// P4.1: that no text has a tree counts ahead of the length of the text.
func TestNoTextAndTooLong(t *testing.T) {
	long := text(syntax.XString, strings.Repeat("a", api.MaxText))
	super := syntax.Node{Kind: syntax.XSuper}
	for _, kids := range [][]syntax.Node{{long, super}, {super, long}, {long, text(syntax.XName, "if")}, {long, {Kind: syntax.XQuote, Kids: []syntax.Node{long}}}} {
		wantError(t, "a block", syntax.Node{Kind: syntax.XBlock, Kids: kids}, api.ErrForm)
		wantError(t, "a unit", unitOf(kids...), api.ErrForm)
	}
	wantError(t, "a member of a class", shape(t, `(SUnit (SClass "A" (SMods) (SNames) (SLists) (SParents) (SBody (XString) (SEnumCase "B" (SNames) (SLists) (SParents)))))`), api.ErrForm)
}

// P4.2: the errors of Print leave Format without an offset.
func TestFormatErrors(t *testing.T) {
	row := "f(" + strings.Repeat("a,", 198) + "a);"
	rows := "val a = {" + strings.Repeat(row, 20)
	rows += "\"" + strings.Repeat("b", api.MaxText-len(rows)-3) + "\"}"
	for text, want := range map[string]api.Errno{
		"val a = " + strings.Repeat("- ", 60) + "b": api.ErrForm,
		rows: api.ErrLimit,
	} {
		parsed(t, parser.Parse, text)
		for style := range Styles {
			if formatted, fault := Format(text, style); fault != (api.Fault{Code: want}) || formatted != "" {
				t.Errorf("%.80s: %.80q, fault %v; want {0, %d}", text, formatted, fault, want)
			}
		}
	}
}
