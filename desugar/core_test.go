package desugar

import (
	"testing"

	"newel/syntax"
)

// samples has a small right node of each kind; those without a + are no core
// trees.
var samples = [syntax.Kinds]string{
	syntax.SNone:        `+(SNone)`,
	syntax.SUnit:        `+(SUnit)`,
	syntax.SImport:      `+(SImport "a")`,
	syntax.SClass:       `+(SClass "A" (SMods) (SNames) (SLists) (SParents) (SNone))`,
	syntax.SDef:         `+(SDef "f" (SMods) (SNames) (SLists) (SNone) (SNone))`,
	syntax.SVal:         `+(SVal "a" (SMods) (SNone) (SNone))`,
	syntax.SType:        `+(SType "T" (SMods) (SNames) (SNone) (SNone) (SNone))`,
	syntax.SGiven:       `+(SGiven (SMods) (SNames) (SLists) (TName "A") (XThis))`,
	syntax.SExtension:   `(SExtension (SNames) (SParam "a" (SMods) (TName "A") (SNone)) (SDef "f" (SMods) (SNames) (SLists) (SNone) (SNone)))`,
	syntax.SEnumCase:    `(SEnumCase "A" (SNames) (SLists) (SParents))`,
	syntax.SMods:        `+(SMods)`,
	syntax.SNames:       `+(SNames)`,
	syntax.STParam:      `+(STParam "A" (SNone) (SNone))`,
	syntax.SLists:       `+(SLists)`,
	syntax.SParams:      `+(SParams)`,
	syntax.SParam:       `+(SParam "a" (SMods) (TName "A") (SNone))`,
	syntax.SParents:     `+(SParents (SParent (TName "A")))`,
	syntax.SParent:      `+(SParent (TName "A"))`,
	syntax.SBody:        `+(SBody)`,
	syntax.TName:        `+(TName "A")`,
	syntax.TSelect:      `+(TSelect "A" (XThis))`,
	syntax.TApply:       `+(TApply (TName "A") (TName "B"))`,
	syntax.TFunction:    `+(TFunction (TName "A"))`,
	syntax.TAnd:         `+(TAnd (TName "A") (TName "B"))`,
	syntax.TOr:          `+(TOr (TName "A") (TName "B"))`,
	syntax.TSingle:      `+(TSingle (XName "a"))`,
	syntax.TWild:        `+(TWild (SNone) (SNone))`,
	syntax.TLambda:      `+(TLambda (SNames) (TName "A"))`,
	syntax.TMatch:       `+(TMatch (TName "A") (TCase (TName "B") (TName "C")))`,
	syntax.TCase:        `+(TCase (TName "A") (TName "B"))`,
	syntax.XName:        `+(XName "a")`,
	syntax.XSelect:      `+(XSelect "a" (XThis))`,
	syntax.XApply:       `+(XApply (XName "f"))`,
	syntax.XNamed:       `+(XNamed "a" (XThis))`,
	syntax.XTypes:       `+(XTypes (XName "f") (TName "A"))`,
	syntax.XInfix:       `(XInfix "+" (XThis) (XNull))`,
	syntax.XPrefix:      `(XPrefix "-" (XInt))`,
	syntax.XAssign:      `+(XAssign "=" (XName "a") (XNull))`,
	syntax.XInt:         `+(XInt)`,
	syntax.XLong:        `+(XLong)`,
	syntax.XChar:        `+(XChar)`,
	syntax.XString:      `+(XString)`,
	syntax.XTrue:        `+(XTrue)`,
	syntax.XFalse:       `+(XFalse)`,
	syntax.XNull:        `+(XNull)`,
	syntax.XUnit:        `+(XUnit)`,
	syntax.XThis:        `+(XThis)`,
	syntax.XSuper:       `+(XSuper)`,
	syntax.XInterp:      `(XInterp "s" (XString))`,
	syntax.XIf:          `+(XIf (XTrue) (XUnit) (XUnit))`,
	syntax.XWhile:       `+(XWhile (XTrue) (XUnit))`,
	syntax.XFor:         `(XFor (SGenerator (PWild) (XNull)) (XUnit))`,
	syntax.SGenerator:   `(SGenerator (PWild) (XNull))`,
	syntax.SBinding:     `(SBinding (PWild) (XNull))`,
	syntax.SGuard:       `(SGuard (XTrue))`,
	syntax.XMatch:       `+(XMatch (XNull) (SCase (PWild) (SNone) (XUnit)))`,
	syntax.SCase:        `+(SCase (PWild) (SNone) (XUnit))`,
	syntax.XTry:         `+(XTry (XNull) (SCases) (SNone))`,
	syntax.SCases:       `+(SCases)`,
	syntax.XThrow:       `+(XThrow (XNull))`,
	syntax.XReturn:      `+(XReturn (XNull))`,
	syntax.XLambda:      `+(XLambda (XNull))`,
	syntax.SLambdaParam: `+(SLambdaParam "a" (SNone))`,
	syntax.XBlock:       `+(XBlock (XNull))`,
	syntax.XNew:         `+(XNew (SParents (SParent (TName "A"))) (SNone))`,
	syntax.XTyped:       `+(XTyped (XNull) (TName "A"))`,
	syntax.XQuote:       `+(XQuote (XNull))`,
	syntax.XSplice:      `+(XSplice (XNull))`,
	syntax.PWild:        `+(PWild)`,
	syntax.PBind:        `+(PBind "a" (PWild))`,
	syntax.PTyped:       `+(PTyped "a" (TName "A"))`,
	syntax.PLiteral:     `+(PLiteral (XNull))`,
	syntax.PStable:      `+(PStable "A")`,
	syntax.PApply:       `+(PApply "A")`,
	syntax.PAlt:         `+(PAlt (PWild) (PWild))`,
}

// small returns the sample of a kind.
func small(kind int) syntax.Node {
	s := samples[kind]
	if s[0] == '+' {
		s = s[1:]
	}
	n, _ := syntax.Read(s)
	return n
}

func wantIsCore(t *testing.T, form string, want bool) {
	t.Helper()
	if got := Core(shape(t, form)); got != want {
		t.Errorf("%s: Core is %v", form, got)
	}
}

// P5.3: trees of each kind, as roots.
func TestCoreKinds(t *testing.T) {
	for k, s := range samples {
		if got := Core(small(k)); got != (s[0] == '+') {
			t.Errorf("%s: Core is %v", s, got)
		}
	}
}

// P5.3: what the definition of core trees says of single nodes.
func TestCoreNodes(t *testing.T) {
	for _, c := range []struct {
		form string
		want bool
	}{
		{`(SClass "A" 1 (SMods) (SNames) (SLists) (SParents) (SNone))`, true},
		{`(SClass "A" 2 (SMods) (SNames) (SLists) (SParents) (SNone))`, true},
		{`(SClass "A" 3 (SMods) (SNames) (SLists) (SParents) (SNone))`, true},
		{`(SClass "A" 4 (SMods) (SNames) (SLists) (SParents) (SNone))`, true},
		{`(SClass "A" 5 (SMods) (SNames) (SLists) (SParents) (SNone))`, false},
		{`(SDef "f" 1 (SMods) (SNames) (SLists) (SNone) (SNone))`, true},
		{`(XAssign "=" (XSelect "a" (XThis)) (XNull))`, true},
		{`(XAssign "=" (XSelect "a" (XApply (XThis))) (XNull))`, true},
		{`(XAssign "+=" (XName "a") (XNull))`, false},
		{`(XAssign "=" (XApply (XName "a")) (XNull))`, false},
		{`(XIf (XTrue) (XUnit) (SNone))`, false},
		{`(XReturn (SNone))`, false},
		{`(XTry (XNull) (SCases) (XUnit))`, true},
		{`(XFor 1 (SGenerator (PWild) (XNull)) (XUnit))`, false},
		{`(SLambdaParam "_" (SNone))`, false},
		{`(SLambdaParam "_" (TName "A"))`, false},
		{`(SLambdaParam "_1" (SNone))`, true},
		{`(XLambda (SLambdaParam "a" (SNone)) (SLambdaParam "_" (SNone)) (XThis))`, false},
		{`(PTyped "_" (TName "A"))`, true},
		// literals of patterns
		{`(PLiteral (XPrefix "-" (XInt 1)))`, true},
		{`(PAlt (PLiteral (XPrefix "-" (XLong 1))) (PWild))`, true},
		{`(XMatch (XNull) (SCase (PLiteral (XPrefix "-" (XInt 1))) (SNone) (XPrefix "-" (XInt 1))))`, false},
		// lists
		{`(SLists (SParams) (SParams) (SParams 1) (SParams 1))`, true},
		{`(SLists (SParams 1))`, true},
		{`(SLists (SParams 1) (SParams))`, false},
		{`(SLists (SParams) (SParams 1) (SParams))`, false},
		{`(SLists (SParams 1) (SParams 1) (SParams 1) (SParams))`, false},
		{`(SParams 1)`, true},
		// blocks
		{`(XBlock)`, false},
		{`(XBlock (XThis))`, true},
		{`(XBlock (XThis) (XNull) (XUnit))`, true},
		{`(XBlock (SVal "a" (SMods) (SNone) (XThis)))`, false},
		{`(XBlock (SVal "a" (SMods) (SNone) (XThis)) (XUnit))`, true},
		{`(XBlock (SVal "a" 1 (SMods) (TName "A") (XThis)) (SVal "a" 2 (SMods 8) (SNone) (XThis)) (XUnit))`, true},
		{`(XBlock (SVal "a" (SMods) (TName "A") (SNone)) (XUnit))`, false},
		{`(XBlock (SImport "a") (XUnit))`, true},
		{`(XBlock (XUnit) (SImport "a"))`, false},
		{`(XBlock (SDef "f" (SMods) (SNames) (SLists) (SNone) (XThis)) (XUnit))`, false},
		{`(XBlock (SClass "A" (SMods) (SNames) (SLists) (SParents) (SNone)) (XUnit))`, false},
		{`(XBlock (SType "T" (SMods) (SNames) (SNone) (SNone) (SNone)) (XUnit))`, false},
		{`(XBlock (SGiven (SMods) (SNames) (SLists) (TName "A") (XThis)) (XUnit))`, false},
		// bodies and units
		{`(SBody (SDef "f" (SMods) (SNames) (SLists) (SNone) (XThis)) (XUnit) (SVal "a" (SMods) (TName "A") (SNone)))`, true},
		{`(SBody (SEnumCase "A" (SNames) (SLists) (SParents)))`, false},
		{`(SUnit (SType "T" (SMods) (SNames) (SNone) (SNone) (SNone)) (SGiven (SMods) (SNames) (SLists) (TName "A") (XThis)) (SVal "a" (SMods) (TName "A") (SNone)))`, true},
		{`(SUnit (SVal "a" (SMods) (SNone) (XBlock)))`, false},
	} {
		wantIsCore(t, c.form, c.want)
	}
}

// P5.3: an abbreviation anywhere below, and trees that are not right.
func TestCoreBelow(t *testing.T) {
	for _, s := range []string{
		`(SUnit (SDef "f" (SMods) (SNames) (SLists (SParams (SParam "a" (SMods) (TName "A") (XIf (XTrue) (XUnit) (SNone))))) (SNone) (SNone)))`,
		`(SUnit (SClass "A" (SMods) (SNames) (SLists) (SParents (SParent 1 (TName "B") (XReturn (SNone)))) (SNone)))`,
		`(XNew (SParents (SParent (TName "A"))) (SBody (XPrefix "-" (XInt 1))))`,
		`(XApply (XName "f") (XNamed "a" (XInfix "+" (XThis) (XThis))))`,
		`(XTry (XNull) (SCases (SCase (PWild) (XBlock) (XUnit))) (SNone))`,
		`(XLambda (XLambda (XLambda (XInterp "s" (XString)))))`,
	} {
		wantIsCore(t, s, false)
	}
	wrong := []syntax.Node{
		{Kind: syntax.Kinds}, {Kind: -1}, {Kind: syntax.XName}, {Kind: syntax.XBlock, Kids: []syntax.Node{{}}}, {Kind: syntax.XIf},
		{Kind: syntax.XAssign, Text: "="}, {Kind: syntax.XReturn}, {Kind: syntax.SClass, Num: 6}, {Kind: syntax.PLiteral},
		{Kind: syntax.PLiteral, Kids: []syntax.Node{{Kind: syntax.XThis}}}, chain(65), wide(20001),
	}
	for _, n := range wrong {
		if Core(n) {
			t.Errorf("%.300s is told to be a core tree", form(n))
		}
	}
	for _, n := range []syntax.Node{chain(64), wide(20000)} {
		if !Core(n) {
			t.Errorf("a tree of %d nodes is no core tree", syntax.Size(n))
		}
	}
}
