package syntax

import (
	"regexp"
	"slices"
	"strings"
	"testing"

	"newel/api"
)

const (
	aDefinition = "(SImport|SClass|SDef|SVal|SType|SGiven|SExtension|SEnumCase)"
	aType       = "(TName|TSelect|TApply|TFunction|TAnd|TOr|TSingle|TWild|TLambda|TMatch)"
	expressions = "XName|XSelect|XApply|XTypes|XInfix|XPrefix|XAssign|XInt|XLong|XChar|XString|XTrue|XFalse|XNull|XUnit|XThis|XSuper|" +
		"XInterp|XIf|XWhile|XFor|XMatch|XTry|XThrow|XReturn|XLambda|XBlock|XNew|XTyped|XQuote|XSplice"
	anExpression = "(" + expressions + ")"
	patterns     = "PWild|PTyped|PLiteral|PStable|PApply"
	aPattern     = "(PBind|PAlt|" + patterns + ")"
	aStatement   = "(" + aDefinition + "|" + expressions + ")"
	typeOrNone   = "(" + aType + "|SNone)"
	exprOrNone   = "(" + expressions + "|SNone)"
	anyTimes     = "{0,200}"
	someTimes    = "{1,200}"
)

// rows has the Kids of the table of nodes as regular expressions over the names
// of kinds. A kind that is left out has no kids.
var rows = map[int]string{
	SUnit:        aDefinition + anyTimes,
	SClass:       "SMods SNames SLists SParents (SBody|SNone)",
	SDef:         "SMods SNames SLists" + typeOrNone + exprOrNone,
	SVal:         "SMods" + typeOrNone + exprOrNone,
	SType:        "SMods SNames (SNone SNone" + aType + "|" + typeOrNone + typeOrNone + "SNone)",
	SGiven:       "SMods SNames SLists" + aType + anExpression,
	SExtension:   "SNames SParam SDef" + someTimes,
	SEnumCase:    "SNames SLists SParents",
	SNames:       "STParam" + anyTimes,
	STParam:      typeOrNone + typeOrNone + "SNone" + anyTimes,
	SLists:       "SParams{0,4}",
	SParams:      "SParam" + anyTimes,
	SParam:       "SMods" + aType + exprOrNone,
	SParents:     "SParent" + anyTimes,
	SParent:      aType,
	SBody:        aStatement + anyTimes,
	TSelect:      "(XName|XThis|XSelect)",
	TApply:       aType + aType + someTimes,
	TFunction:    aType + anyTimes + aType,
	TAnd:         aType + aType,
	TOr:          aType + aType,
	TSingle:      "(XName|XThis|XSelect)",
	TWild:        typeOrNone + typeOrNone,
	TLambda:      "SNames" + aType,
	TMatch:       aType + "TCase" + someTimes,
	TCase:        aType + aType,
	XSelect:      anExpression,
	XApply:       anExpression + anExpression + anyTimes + "XNamed" + anyTimes,
	XNamed:       anExpression,
	XTypes:       anExpression + aType + someTimes,
	XInfix:       anExpression + anExpression,
	XPrefix:      anExpression,
	XAssign:      anExpression + anExpression,
	XInterp:      "XString(" + anExpression + "XString)" + anyTimes,
	XIf:          anExpression + anExpression + exprOrNone,
	XWhile:       anExpression + anExpression,
	XFor:         "SGenerator(SGenerator|SBinding|SGuard)" + anyTimes + anExpression,
	SGenerator:   aPattern + anExpression,
	SBinding:     aPattern + anExpression,
	SGuard:       anExpression,
	XMatch:       anExpression + "SCase" + someTimes,
	SCase:        aPattern + exprOrNone + anExpression,
	XTry:         anExpression + "SCases" + exprOrNone,
	SCases:       "SCase" + anyTimes,
	XThrow:       anExpression,
	XReturn:      exprOrNone,
	XLambda:      "SLambdaParam" + anyTimes + anExpression,
	SLambdaParam: typeOrNone,
	XBlock:       aStatement + anyTimes,
	XNew:         "SParents(SBody|SNone)",
	XTyped:       anExpression + aType,
	XQuote:       anExpression,
	XSplice:      anExpression,
	PBind:        "(PAlt|" + patterns + ")",
	PTyped:       aType,
	PLiteral:     "(XInt|XLong|XChar|XString|XTrue|XFalse|XNull|XUnit|XPrefix)",
	PApply:       aPattern + anyTimes,
	PAlt:         "(PBind|" + patterns + ")(PBind|" + patterns + ")" + someTimes,
}

// withArguments is the row of a SParent with the Num 1; rows has that with 0.
const withArguments = aType + anExpression + anyTimes

var kindWord = regexp.MustCompile("[A-Z]+[a-zA-Z]+")

// letterOf is a letter for a kind, so that a list of kids is a text.
func letterOf(kind int) string { return string(rune(0x4e00 + kind)) }

// compiled returns a row as a regular expression over the letters of kinds.
func compiled(row string) *regexp.Regexp {
	row = kindWord.ReplaceAllStringFunc(row, func(w string) string { return letterOf(kindNamed(w)) })
	return regexp.MustCompile("^(" + strings.ReplaceAll(row, " ", "") + ")$")
}

// formChecker compares Check with the rows of the table.
type formChecker struct {
	t       *testing.T
	samples [Kinds]Node
	row     *regexp.Regexp
	parent  Node
	right   int
	wrong   int
}

// try checks the parent with kids of the kinds that are listed.
func (c *formChecker) try(kinds []int) {
	c.parent.Kids = nil
	letters := ""
	for _, k := range kinds {
		c.parent.Kids = append(c.parent.Kids, c.samples[k])
		letters += letterOf(k)
	}
	want := api.Fault{}
	if !c.row.MatchString(letters) {
		want = api.Fault{Code: api.ErrForm}
		c.wrong++
	} else {
		c.right++
	}
	if got := Check(c.parent); got != want {
		c.t.Errorf("%s with kids %v: Check = %v, want %v", Name(c.parent.Kind), kinds, got, want)
	}
}

// vary tries a list of kinds and all lists that differ from it in one place.
func (c *formChecker) vary(kinds []int) {
	c.try(kinds)
	for i := range kinds {
		c.try(slices.Delete(slices.Clone(kinds), i, i+1))
	}
	for k := range Kinds {
		for i := range kinds {
			other := slices.Clone(kinds)
			other[i] = k
			c.try(other)
		}
		for i := range len(kinds) + 1 {
			c.try(slices.Insert(slices.Clone(kinds), i, k))
		}
	}
}

// compare compares Check of a node, with all kinds of kids, with a row.
func (c *formChecker) compare(n Node, row string) {
	c.row, c.parent, c.right, c.wrong = compiled(row), n, 0, 0
	var kids []int
	for _, x := range n.Kids {
		kids = append(kids, x.Kind)
	}
	c.vary(kids)
	for x := range Kinds { // a kid at each place, and one more
		for y := range Kinds {
			c.try([]int{x, y})
		}
	}
	for _, more := range longer[n.Kind] {
		c.vary(more)
	}
	if c.right == 0 || c.wrong < Kinds-1 {
		c.t.Errorf("%s: only %d right lists, %d wrong ones", Name(n.Kind), c.right, c.wrong)
	}
}

// P2.1: the rows of the table: Kids of all kinds, at all places.
func TestForms(t *testing.T) {
	c := formChecker{t: t}
	for k := range Kinds {
		c.samples[k] = sample(t, k)
		wantCheck(t, samples[k], c.samples[k], 0, api.OK)
	}
	for k := range Kinds {
		c.compare(c.samples[k], rows[k])
	}
	parent := c.samples[SParent]
	parent.Num = 1
	c.compare(parent, withArguments)
}

// longer has lists of kids in which all is there that may be left out, and what
// may be repeated is.
var longer = map[int][][]int{
	SUnit:      {{SImport, SClass, SDef}},
	SClass:     {{SMods, SNames, SLists, SParents, SBody}},
	SDef:       {{SMods, SNames, SLists, TName, XName}},
	SVal:       {{SMods, TName, XName}},
	SType:      {{SMods, SNames, TName, TName, SNone}, {SMods, SNames, TName, SNone, SNone}, {SMods, SNames, SNone, SNone, TName}},
	SExtension: {{SNames, SParam, SDef, SDef, SDef}},
	STParam:    {{TName, TName, SNone, SNone}},
	SLists:     {{SParams, SParams, SParams}, {SParams, SParams, SParams, SParams}},
	SParams:    {{SParam, SParam}},
	SParents:   {{SParent, SParent}},
	SParent:    {{TName, XName, XName}},
	SBody:      {{SDef, XName, SEnumCase}},
	TApply:     {{TName, TWild, TName}},
	TFunction:  {{TName, TName, TName}},
	TMatch:     {{TName, TCase, TCase}},
	XApply:     {{XName, XName, XName}, {XName, XName, XNamed}, {XName, XNamed, XNamed}},
	XTypes:     {{XName, TName, TName}},
	XInterp:    {{XString, XName, XString}, {XString, XName, XString, XString, XString}},
	XIf:        {{XName, XName, XName}},
	XFor:       {{SGenerator, SGuard, XName}, {SGenerator, SBinding, SGenerator, SGuard, XName}},
	XMatch:     {{XName, SCase, SCase}},
	SCase:      {{PWild, XName, XName}},
	XTry:       {{XName, SCases, XName}},
	XLambda:    {{SLambdaParam, SLambdaParam, XName}},
	XBlock:     {{SVal, XName, SImport}},
	XNew:       {{SParents, SBody}},
	PApply:     {{PWild, PBind, PAlt}},
	PAlt:       {{PWild, PBind, PApply}},
}

// P2.1: what is repeated stands at most 200 times (lists of parameters 4 times).
func TestRepeats(t *testing.T) {
	for _, c := range []struct {
		kind        int
		front, kids string // what is repeated may be several nodes
		back        string
		least, most int
	}{
		{SUnit, "", "(SImport \"a\")", "", 0, 200},
		{SExtension, samples[SNames] + samples[SParam], samples[SDef], "", 1, 200},
		{SNames, "", samples[STParam], "", 0, 200},
		{STParam, "(SNone) (TName \"A\")", "(SNone)", "", 0, 200},
		{SLists, "", "(SParams)", "", 0, 4},
		{SParams, "", samples[SParam], "", 0, 200},
		{SParents, "", samples[SParent], "", 0, 200},
		{SParent, "(TName \"A\")", "(XThis)", "", 0, 200},
		{SBody, "", "(XThis)", "", 0, 200},
		{TApply, "(TName \"A\")", "(TName \"A\")", "", 1, 200},
		{TFunction, "", "(TName \"A\")", "(TName \"A\")", 0, 200},
		{TMatch, "(TName \"A\")", samples[TCase], "", 1, 200},
		{XApply, "(XThis)", "(XThis)", "", 0, 200},
		{XApply, "(XThis)", samples[XNamed], "", 0, 200},
		{XTypes, "(XThis)", "(TName \"A\")", "", 1, 200},
		{XInterp, "(XString)", "(XThis) (XString)", "", 0, 200},
		{XFor, samples[SGenerator], samples[SGuard], "(XThis)", 0, 200},
		{XMatch, "(XThis)", samples[SCase], "", 1, 200},
		{SCases, "", samples[SCase], "", 0, 200},
		{XLambda, "", samples[SLambdaParam], "(XThis)", 0, 200},
		{XBlock, "", "(XThis)", "", 0, 200},
		{PApply, "", "(PWild)", "", 0, 200},
		{PAlt, "(PWild)", "(PWild)", "", 1, 200},
	} {
		front, kids, back := nodesOf(t, c.front), nodesOf(t, c.kids), nodesOf(t, c.back)
		for _, times := range []int{0, 1, 2, 3, 4, 5, 199, 200, 201, 300} {
			n := sample(t, c.kind)
			if c.kind == SParent { // with the Num 0 it has no arguments at all
				n.Num = 1
			}
			n.Kids = slices.Concat(front, slices.Repeat(kids, times), back)
			want := api.OK
			if times < c.least || times > c.most {
				want = api.ErrForm
			}
			wantCheck(t, Name(c.kind)+" with "+c.kids, n, 0, want)
		}
	}
}

// nodesOf returns the nodes of several text forms, which stand one behind the
// other.
func nodesOf(t *testing.T, forms string) []Node {
	t.Helper()
	forms = strings.ReplaceAll(forms, ")(", ") (")
	return shape(t, strings.TrimSuffix("(SUnit "+forms, " ")+")").Kids
}
