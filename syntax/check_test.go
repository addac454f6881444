package syntax

import (
	"math"
	"slices"
	"strings"
	"testing"

	"newel/api"
)

// P2.1: a right node of each kind may be the root.
func TestEachKind(t *testing.T) {
	for k := range Kinds {
		n := sample(t, k)
		if n.Kind != k {
			t.Errorf("the sample of %s has the kind %d", Name(k), n.Kind)
		}
		wantCheck(t, samples[k], n, 0, api.OK)
	}
}

// The document's examples.
func TestExamples(t *testing.T) {
	wantCheck(t, "1 + x", shape(t, `(XInfix "+" (XInt 1) (XName "x"))`), 0, api.OK)
	wantCheck(t, "val a = 2", shape(t, `(SVal "a" (SMods) (SNone) (XInt 2))`), 0, api.OK)
	wantCheck(t, "val a = 2 without a type's place", shape(t, `(SVal "a" (SMods) (XInt 2))`), 0, api.ErrForm)
}

// What a Text may be.
const (
	isAWord = 1 << iota
	isSigns
	isAPath
	isAnImport
	isASign
	assigns
)

type textCase struct {
	text string
	is   int
}

func textCases() []textCase {
	long := strings.Repeat("n", api.MaxName)
	l := []textCase{
		{"", 0}, {"_", 0}, {" ", 0}, {"1", 0}, {"1a", 0}, {"a b", 0}, {"a-b", 0}, {"a+", 0}, {"+a", 0}, {"a$", 0},
		{"a.", 0}, {".a", 0}, {".", 0}, {"a..b", 0}, {"a._", 0}, {"a.1", 0}, {"a.+", 0}, {"a*", 0}, {"*.a", 0}, {"a.*.b", 0},
		{"a.**", 0}, {"a.*.*", 0}, {"a. b", 0}, {"\xe9", 0}, {"a\x00", 0}, {"\n", 0}, {"(", 0}, {"a=", 0}, {"+.", 0}, {"= ", 0},
		{"a", isAWord | isAPath | isAnImport},
		{"Z", isAWord | isAPath | isAnImport},
		{"_a", isAWord | isAPath | isAnImport},
		{"__", isAWord | isAPath | isAnImport},
		{"_1", isAWord | isAPath | isAnImport},
		{"abcdefghijklmnopqrstuvwxyz_ABCDEFGHIJKLMNOPQRSTUVWXYZ_0123456789", isAWord | isAPath | isAnImport},
		{"class", isAWord | isAPath | isAnImport},
		{long, isAWord | isAPath | isAnImport},
		{long + "n", 0},
		{"a.b", isAPath | isAnImport},
		{long + "." + long, isAPath | isAnImport},
		{"a." + long + "n", 0},
		{"a.b.c.d.e.f.g.h", isAPath | isAnImport},
		{"a.b.c.d.e.f.g.h.i", 0},
		{"a.*", isAnImport},
		{"a.b.c.d.e.f.g.*", isAnImport},
		{"a.b.c.d.e.f.g.h.*", 0},
		{"*", isSigns | isAnImport},
		{"+", isSigns | isASign}, {"-", isSigns | isASign}, {"!", isSigns | isASign}, {"~", isSigns | isASign},
		{"--", isSigns}, {"=", isSigns | assigns}, {"==", isSigns}, {"=>", isSigns}, {"<=", isSigns}, {">=", isSigns}, {"!=", isSigns},
		{"===", isSigns}, {"=+=", isSigns}, {":", isSigns}, {"&&", isSigns}, {"||", isSigns}, {"::", isSigns}, {"/", isSigns},
		{"+=", isSigns | assigns}, {"<<=", isSigns | assigns}, {"!==", isSigns | assigns}, {":=", isSigns | assigns},
		{"+-*/%<>=!&|^~:?", isSigns},
		{strings.Repeat("+", api.MaxName), isSigns},
		{strings.Repeat("+", api.MaxName+1), 0},
		{strings.Repeat("+", api.MaxName-1) + "=", isSigns | assigns},
		{strings.Repeat("+", api.MaxName) + "=", 0},
	}
	for _, b := range "+-*/%<>=!&|^~:?" { // each one by itself
		l = append(l, textCase{string(b) + string(b) + "+", isSigns})
	}
	for b := range 256 {
		if !strings.Contains("abcdefghijklmnopqrstuvwxyzABCDEFGHIJKLMNOPQRSTUVWXYZ0123456789_+-*/%<>=!&|^~:?.", string([]byte{byte(b)})) {
			l = append(l, textCase{"a" + string([]byte{byte(b)}), 0}, textCase{"+" + string([]byte{byte(b)}), 0})
		}
	}
	return l
}

// wantText returns the error of a Text by the table.
func wantText(kind int, c textCase) api.Errno {
	named := func(right bool) api.Errno {
		if right {
			return api.OK
		}
		return api.ErrName
	}
	permitted := func(right bool) api.Errno {
		if right {
			return api.OK
		}
		return api.ErrInvalid
	}
	switch kind {
	case SClass, SDef, XName, XSelect, XInfix:
		return named(c.is&(isAWord|isSigns) != 0)
	case SVal, SType, SEnumCase, STParam, SParam, TName, TSelect, XNamed, XInterp, PBind:
		return named(c.is&isAWord != 0)
	case SGiven, XSuper:
		return named(c.is&isAWord != 0 || c.text == "")
	case SLambdaParam, PTyped:
		return named(c.is&isAWord != 0 || c.text == "_")
	case SImport:
		return named(c.is&isAnImport != 0)
	case PStable, PApply:
		return named(c.is&isAPath != 0)
	case XPrefix:
		return permitted(c.is&isASign != 0)
	case XAssign:
		return permitted(c.is&assigns != 0)
	case XString:
		return api.OK
	}
	return permitted(c.text == "")
}

// P2.1: the Texts of all kinds: ErrName, and ErrInvalid.
func TestTexts(t *testing.T) {
	for k := range Kinds {
		n := sample(t, k)
		for _, c := range textCases() {
			n.Text = c.text
			wantCheck(t, Name(k)+" "+c.text, n, 0, wantText(k, c))
		}
	}
}

// nums has the Nums that the table permits; of other kinds it is 0. (Those of
// SMods are sums of flags; XInt, XLong and XChar have ranges.)
var nums = map[int][]int64{
	SClass:  {0, 1, 2, 3, 4, 5},
	SDef:    {0, 1},
	SVal:    {0, 1, 2},
	STParam: {0, api.Covariant, api.Contravariant},
	SParams: {0, 1},
	SParam:  {0, 1, 2, 4, 5, 6, 8, 9, 10},
	SParent: {0, 1},
	XApply:  {0, 1},
	XFor:    {0, 1},
}

func wantNum(kind int, num int64) api.Errno {
	in := false
	switch kind {
	case SMods:
		in = num >= 0 && num&^(api.Abstract+api.Final+api.Sealed+api.Private+api.Override+api.Volatile+api.Inline) == 0
	case XInt:
		in = num >= 0 && num <= 2147483647
	case XLong:
		in = num >= 0
	case XChar:
		in = num >= 0 && num <= 255
	default:
		if nums[kind] == nil && num != 0 {
			return api.ErrInvalid
		}
		in = nums[kind] == nil || slices.Contains(nums[kind], num)
	}
	if !in {
		return api.ErrRange
	}
	return api.OK
}

// P2.1: the Nums of all kinds: ErrRange, and ErrInvalid where it must be 0.
func TestNums(t *testing.T) {
	values := []int64{254, 255, 256, math.MaxInt32 - 1, math.MaxInt32, math.MaxInt32 + 1, math.MaxInt64, math.MinInt64, math.MinInt32,
		api.Case, api.Value, api.Var, api.Lazy, api.Volatile, api.Given, api.Using, api.Inline, api.Extension, api.Synthetic, api.Flags,
		api.Inline + api.Volatile, api.Abstract + api.Final + api.Sealed + api.Private + api.Override + api.Volatile + api.Inline}
	for v := range int64(41) {
		values = append(values, v-5)
	}
	for k := range Kinds {
		n := sample(t, k)
		for _, v := range values {
			n.Num = v
			wantCheck(t, Name(k)+" with a Num", n, 0, wantNum(k, v))
		}
	}
}

// P2.1: kinds that are none.
func TestUnknownKinds(t *testing.T) {
	for _, k := range []int{-1, Kinds, Kinds + 1, math.MaxInt, math.MinInt} {
		wantCheck(t, "an unknown kind", Node{Kind: k}, 0, api.ErrKind)
		wantCheck(t, "an unknown kind with all faults", Node{Kind: k, Text: "a", Num: -3, Kids: []Node{{Kind: k}}}, 0, api.ErrKind)
		wantCheck(t, "an unknown kind below", Node{Kind: XQuote, Kids: []Node{{Kind: k}}}, 0, api.ErrForm)
	}
}

// P2.1: of several faults of a node the one that is named first.
func TestOrderOfFaults(t *testing.T) {
	for _, c := range []struct {
		form string
		code api.Errno
	}{
		{`(SClass "1" 6 (SMods))`, api.ErrName},
		{`(SClass "A" 6 (SMods))`, api.ErrRange},
		{`(SClass "A" 5 (SMods))`, api.ErrForm},
		{`(TName "+" 1 (SMods))`, api.ErrName},
		{`(TName "A" 1 (SMods))`, api.ErrInvalid},
		{`(TName "A" (SMods))`, api.ErrForm},
		{`(XInt "a" -1 (XThis))`, api.ErrRange},
		{`(XInt "a" 1 (XThis))`, api.ErrInvalid},
		{`(XInt 1 (XThis))`, api.ErrForm},
		{`(SMods "a" 32)`, api.ErrRange},
		{`(SMods "a" 1)`, api.ErrInvalid},
		{`(XPrefix "*" 1)`, api.ErrInvalid},
		{`(XPrefix "*")`, api.ErrInvalid},
		{`(XPrefix "-")`, api.ErrForm},
		{`(XAssign "<=")`, api.ErrInvalid},
		{`(XAssign "+=")`, api.ErrForm},
		{`(SParam "a" 3)`, api.ErrRange},
		{`(XTrue 1 (XThis))`, api.ErrInvalid},
		{`(XTrue (XThis))`, api.ErrForm},
		{`(SNone (SNone))`, api.ErrForm},
		{`(SParent "a" 2 (TName "A") (XThis))`, api.ErrRange},
		{`(SParent "a" (TName "A") (XThis))`, api.ErrInvalid},
		{`(SParent (TName "A") (XThis))`, api.ErrForm},
	} {
		wantCheck(t, c.form, shape(t, c.form), 0, c.code)
	}
}

// P2.1: the first node in preorder, with its index.
func TestIndex(t *testing.T) {
	for _, c := range []struct {
		form string
		at   int
		code api.Errno
	}{
		{`(XInfix "+" (XInt 1) (XName "1"))`, 2, api.ErrName},
		{`(XInfix "+" (XInt -1) (XName "1"))`, 1, api.ErrRange},
		{`(XInfix "+" (XPrefix "-" (XInt 1)) (XTrue 1))`, 3, api.ErrInvalid},
		{`(XInfix "+" (XQuote (XThis "a")) (XTrue 1))`, 2, api.ErrInvalid},
		{`(XInfix "+" (XQuote (SNone)) (XTrue 1))`, 1, api.ErrForm},
		{`(XInfix "a b" (XQuote (SNone)) (XTrue 1))`, 0, api.ErrName},
		{`(SUnit (SVal "a" (SMods) (SNone) (XInt 2)) (SVal "b" 3 (SMods) (SNone) (SNone)))`, 5, api.ErrRange},
		{`(SUnit (SVal "a" (SMods) (SNone) (XInt 2)) (SVal "b" 1 (SMods 32) (SNone) (SNone "a")))`, 6, api.ErrRange},
		{`(XBlock (XBlock (XBlock) (XBlock (SGuard (XThis)))))`, 3, api.ErrForm},
		{`(SNone (XInt -1))`, 0, api.ErrForm},
	} {
		wantCheck(t, c.form, shape(t, c.form), c.at, c.code)
	}
}

// P2.1: what the table says of kids beside their kinds, and the further rules.
func TestFurtherRules(t *testing.T) {
	def := ` (SMods) (SNames) (SLists) (SNone) (SNone))`
	for _, c := range []struct {
		form string
		at   int
		code api.Errno
	}{
		// Extension methods stand alone, definitions of an extension are no such methods.
		{`(SDef "f" 1` + def, 0, api.OK},
		{`(SExtension (SNames) (SParam "a" (SMods) (TName "A") (SNone)) (SDef "f"` + def + `)`, 0, api.OK},
		{`(SExtension (SNames) (SParam "a" (SMods) (TName "A") (SNone)) (SDef "f" 1` + def + `)`, 0, api.ErrForm},
		{`(SExtension (SNames) (SParam "a" (SMods) (TName "A") (SNone)) (SDef "f"` + def + ` (SDef "f" 1` + def + `)`, 0, api.ErrForm},
		// An alias has no bounds.
		{`(SType "T" (SMods) (SNames) (SNone) (SNone) (TName "A"))`, 0, api.OK},
		{`(SType "T" (SMods) (SNames) (TName "A") (TName "A") (SNone))`, 0, api.OK},
		{`(SType "T" (SMods) (SNames) (TName "A") (SNone) (TName "A"))`, 0, api.ErrForm},
		{`(SType "T" (SMods) (SNames) (SNone) (TName "A") (TName "A"))`, 0, api.ErrForm},
		// Paths in types.
		{`(TSelect "A" (XSelect "b" (XSelect "c" (XName "d"))))`, 0, api.OK},
		{`(TSelect "A" (XSelect "b" (XThis)))`, 0, api.OK},
		{`(TSelect "A" (XSelect "b" (XSuper)))`, 0, api.ErrForm},
		{`(TSelect "A" (XSelect "b" (XSelect "c" (XApply (XName "d")))))`, 0, api.ErrForm},
		{`(TSelect "A" (XSelect "b"))`, 0, api.ErrForm},
		{`(TSelect "A" (XSelect "b" (XThis) (XThis)))`, 0, api.ErrForm},
		{`(TSelect "A" (XSelect "b c" (XThis)))`, 1, api.ErrName},
		{`(TSingle (XSelect "b" (XSelect "c" (XThis))))`, 0, api.OK},
		{`(TSingle (XSelect "b" (XNull)))`, 0, api.ErrForm},
		// A named argument is followed by named ones.
		{`(XApply 1 (XName "f") (XThis) (XNamed "a" (XThis)))`, 0, api.OK},
		{`(XApply (XName "f") (XNamed "a" (XThis)) (XNamed "a" (XThis)))`, 0, api.OK},
		{`(XApply (XName "f") (XNamed "a" (XThis)) (XThis))`, 0, api.ErrForm},
		{`(XApply (XName "f") (XThis) (XNamed "a" (XThis)) (XNamed "a" (XThis)) (XThis))`, 0, api.ErrForm},
		{`(XApply (XNamed "f" (XThis)))`, 0, api.ErrForm},
		// An XNew has a parent.
		{`(XNew (SParents) (SNone))`, 0, api.ErrForm},
		{`(XNew (SParents (SParent (TName "A")) (SParent 1 (TName "B") (XInt 1))) (SBody))`, 0, api.OK},
		{`(SParents)`, 0, api.OK},
		// Literals of patterns.
		{`(PLiteral (XPrefix "-" (XInt 1)))`, 0, api.OK},
		{`(PLiteral (XPrefix "-" (XLong 1)))`, 0, api.OK},
		{`(PLiteral (XPrefix "-" (XChar 1)))`, 0, api.ErrForm},
		{`(PLiteral (XPrefix "-" (XPrefix "-" (XInt 1))))`, 0, api.ErrForm},
		{`(PLiteral (XPrefix "+" (XInt 1)))`, 0, api.ErrForm},
		{`(PLiteral (XPrefix "-"))`, 0, api.ErrForm},
		{`(PLiteral (XThis))`, 0, api.ErrForm},
		{`(PLiteral (XPrefix "-" (XInt -1)))`, 2, api.ErrRange},
		// Patterns.
		{`(PBind "a" (PBind "b" (PWild)))`, 0, api.ErrForm},
		{`(PBind "a" (PAlt (PWild) (PBind "b" (PWild))))`, 0, api.OK},
		{`(PAlt (PWild) (PAlt (PWild) (PWild)))`, 0, api.ErrForm},
		{`(PAlt (PApply "A" (PAlt (PWild) (PWild))) (PWild))`, 0, api.OK},
		{`(PAlt (PWild))`, 0, api.ErrForm},
		// A parent has arguments just with the Num 1; a list of them may be empty.
		{`(SParent (TName "A"))`, 0, api.OK},
		{`(SParent (TName "A") (XInt 1))`, 0, api.ErrForm},
		{`(SParent (TName "A") (XInt 1) (XInt 2))`, 0, api.ErrForm},
		{`(SParent (TName "A") (TName "B"))`, 0, api.ErrForm},
		{`(SParent)`, 0, api.ErrForm},
		{`(SParent 1)`, 0, api.ErrForm},
		{`(SParent 1 (TName "A"))`, 0, api.OK},
		{`(SParent 1 (TName "A") (XInt 1))`, 0, api.OK},
		{`(SParent 1 (TName "A") (XInt 1) (XInt 2))`, 0, api.OK},
		{`(SParent 1 (TName "A") (TName "B"))`, 0, api.ErrForm},
		{`(SParent 1 (TName "A") (XNamed "a" (XInt 1)))`, 0, api.ErrForm},
		{`(SParent 1 (XInt 1))`, 0, api.ErrForm},
		{`(SParents (SParent (TName "A")) (SParent (TName "B") (XInt 1)))`, 3, api.ErrForm},
		{`(XNew (SParents (SParent (TName "A") (XInt 1))) (SNone))`, 2, api.ErrForm},
		{`(SParent (TName "1") (XInt 1))`, 0, api.ErrForm},
		{`(SParent 1 (TName "1") (XInt 1))`, 1, api.ErrName},
	} {
		wantCheck(t, c.form, shape(t, c.form), c.at, c.code)
	}
}

// P2.1: the length of a string is a further rule.
func TestLongString(t *testing.T) {
	n := Node{Kind: XString, Text: strings.Repeat("\xff", api.MaxText)}
	wantCheck(t, "a string", n, 0, api.OK)
	n.Text += "a"
	wantCheck(t, "a long string", n, 0, api.ErrForm)
	wantCheck(t, "a long string with a Num", Node{Kind: XString, Text: n.Text, Num: 1}, 0, api.ErrInvalid)
	wantCheck(t, "a long string below", Node{Kind: XQuote, Kids: []Node{n}}, 1, api.ErrForm)
}

// P2.1: the nesting and the number of nodes come first, in this order.
func TestLimits(t *testing.T) {
	wantCheck(t, "nested as deep as may be", chain(api.MaxNest), 0, api.OK)
	wantCheck(t, "nested too deeply", chain(api.MaxNest+1), 0, api.ErrDepth)
	wantCheck(t, "nested much too deeply", chain(1<<16), 0, api.ErrDepth)
	wantCheck(t, "as many nodes as may be", wide(api.MaxNodes), 0, api.OK)
	wantCheck(t, "too many nodes", wide(api.MaxNodes+1), 0, api.ErrLimit)

	deep := chain(api.MaxNest + 1)
	deep.Kind = -1
	wantCheck(t, "nested too deeply, and an unknown kind", deep, 0, api.ErrDepth)
	many := wide(api.MaxNodes + 1)
	many.Kind = -1
	wantCheck(t, "too many nodes, and an unknown kind", many, 0, api.ErrLimit)
	flat := Node{Kind: SUnit, Kids: make([]Node, 3*api.MaxNodes)}
	wantCheck(t, "too many kids", flat, 0, api.ErrLimit)
	flat.Kids[len(flat.Kids)-1] = chain(api.MaxNest - 1)
	wantCheck(t, "too many kids, the last one nested deeply", flat, 0, api.ErrLimit)
	flat.Kids[len(flat.Kids)-1] = chain(api.MaxNest)
	wantCheck(t, "too many kids, the last one nested too deeply", flat, 0, api.ErrDepth)
}
