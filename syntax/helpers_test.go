package syntax

import (
	"strings"
	"testing"

	"newel/api"
)

// samples has a right node of each kind.
var samples = [Kinds]string{
	SNone:        `(SNone)`,
	SUnit:        `(SUnit)`,
	SImport:      `(SImport "a")`,
	SClass:       `(SClass "A" (SMods) (SNames) (SLists) (SParents) (SNone))`,
	SDef:         `(SDef "f" (SMods) (SNames) (SLists) (SNone) (SNone))`,
	SVal:         `(SVal "a" (SMods) (SNone) (SNone))`,
	SType:        `(SType "T" (SMods) (SNames) (SNone) (SNone) (SNone))`,
	SGiven:       `(SGiven (SMods) (SNames) (SLists) (TName "A") (XThis))`,
	SExtension:   `(SExtension (SNames) (SParam "a" (SMods) (TName "A") (SNone)) (SDef "f" (SMods) (SNames) (SLists) (SNone) (SNone)))`,
	SEnumCase:    `(SEnumCase "A" (SNames) (SLists) (SParents))`,
	SMods:        `(SMods)`,
	SNames:       `(SNames)`,
	STParam:      `(STParam "A" (SNone) (SNone))`,
	SLists:       `(SLists)`,
	SParams:      `(SParams)`,
	SParam:       `(SParam "a" (SMods) (TName "A") (SNone))`,
	SParents:     `(SParents (SParent (TName "A")))`,
	SParent:      `(SParent (TName "A"))`,
	SBody:        `(SBody)`,
	TName:        `(TName "A")`,
	TSelect:      `(TSelect "A" (XThis))`,
	TApply:       `(TApply (TName "A") (TName "B"))`,
	TFunction:    `(TFunction (TName "A"))`,
	TAnd:         `(TAnd (TName "A") (TName "B"))`,
	TOr:          `(TOr (TName "A") (TName "B"))`,
	TSingle:      `(TSingle (XName "a"))`,
	TWild:        `(TWild (SNone) (SNone))`,
	TLambda:      `(TLambda (SNames) (TName "A"))`,
	TMatch:       `(TMatch (TName "A") (TCase (TName "B") (TName "C")))`,
	TCase:        `(TCase (TName "A") (TName "B"))`,
	XName:        `(XName "a")`,
	XSelect:      `(XSelect "a" (XThis))`,
	XApply:       `(XApply (XName "f"))`,
	XNamed:       `(XNamed "a" (XThis))`,
	XTypes:       `(XTypes (XName "f") (TName "A"))`,
	XInfix:       `(XInfix "+" (XThis) (XNull))`,
	XPrefix:      `(XPrefix "-" (XInt))`,
	XAssign:      `(XAssign "=" (XName "a") (XNull))`,
	XInt:         `(XInt)`,
	XLong:        `(XLong)`,
	XChar:        `(XChar)`,
	XString:      `(XString)`,
	XTrue:        `(XTrue)`,
	XFalse:       `(XFalse)`,
	XNull:        `(XNull)`,
	XUnit:        `(XUnit)`,
	XThis:        `(XThis)`,
	XSuper:       `(XSuper)`,
	XInterp:      `(XInterp "s" (XString))`,
	XIf:          `(XIf (XTrue) (XUnit) (SNone))`,
	XWhile:       `(XWhile (XTrue) (XUnit))`,
	XFor:         `(XFor (SGenerator (PWild) (XNull)) (XUnit))`,
	SGenerator:   `(SGenerator (PWild) (XNull))`,
	SBinding:     `(SBinding (PWild) (XNull))`,
	SGuard:       `(SGuard (XTrue))`,
	XMatch:       `(XMatch (XNull) (SCase (PWild) (SNone) (XUnit)))`,
	SCase:        `(SCase (PWild) (SNone) (XUnit))`,
	XTry:         `(XTry (XNull) (SCases) (SNone))`,
	SCases:       `(SCases)`,
	XThrow:       `(XThrow (XNull))`,
	XReturn:      `(XReturn (SNone))`,
	XLambda:      `(XLambda (XNull))`,
	SLambdaParam: `(SLambdaParam "a" (SNone))`,
	XBlock:       `(XBlock)`,
	XNew:         `(XNew (SParents (SParent (TName "A"))) (SNone))`,
	XTyped:       `(XTyped (XNull) (TName "A"))`,
	XQuote:       `(XQuote (XNull))`,
	XSplice:      `(XSplice (XNull))`,
	PWild:        `(PWild)`,
	PBind:        `(PBind "a" (PWild))`,
	PTyped:       `(PTyped "a" (TName "A"))`,
	PLiteral:     `(PLiteral (XNull))`,
	PStable:      `(PStable "A")`,
	PApply:       `(PApply "A")`,
	PAlt:         `(PAlt (PWild) (PWild))`,
}

// shape returns the tree of a text form, which need not be right.
func shape(t *testing.T, form string) Node {
	t.Helper()
	r := reader{text: form, deep: -1}
	n, ok := r.node(1)
	if !ok || r.at < len(form) {
		t.Fatalf("%s is no text form from %d on", form, r.at)
	}
	return n
}

// sample returns a right node of a kind.
func sample(t *testing.T, kind int) Node {
	t.Helper()
	return shape(t, samples[kind])
}

// wantCheck checks the fault of a tree.
func wantCheck(t *testing.T, what string, n Node, at int, code api.Errno) {
	t.Helper()
	if got, want := Check(n), (api.Fault{At: at, Code: code}); got != want {
		t.Errorf("%.200s: Check = %v, want %v", what, got, want)
	}
}

// chain returns a right tree of a nesting.
func chain(depth int) Node {
	n := Node{Kind: XName, Text: "a"}
	for range depth - 1 {
		n = Node{Kind: XQuote, Kids: []Node{n}}
	}
	return n
}

// wide returns a right tree of a number of nodes, nested three deep.
func wide(size int) Node {
	n := Node{Kind: XBlock}
	for left := size - 1; left > 0; {
		row := min(left, 200)
		kid := Node{Kind: XBlock}
		for range row - 1 {
			kid.Kids = append(kid.Kids, Node{Kind: XName, Text: "a"})
		}
		n.Kids = append(n.Kids, kid)
		left -= row
	}
	return n
}

// copies returns a text form several times, with a blank in front of each.
func copies(form string, count int) string {
	return strings.Repeat(" "+form, count)
}

// dice are numbers that look random and are the same in each run.
type dice uint64

// roll returns a number from 0 to n - 1.
func (d *dice) roll(n int) int {
	*d = *d*6364136223846793005 + 1442695040888963407
	return int(uint64(*d)>>33) % n
}

func (d *dice) pick(words ...string) string { return words[d.roll(len(words))] }
