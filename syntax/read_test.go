package syntax

import (
	"math"
	"strings"
	"testing"

	"newel/api"
)

// wantRead checks that Read gives a fault and nothing else.
func wantRead(t *testing.T, form string, at int, code api.Errno) {
	t.Helper()
	n, f := Read(form)
	if want := (api.Fault{At: at, Code: code}); f != want || !isZero(n) {
		t.Errorf("Read(%.200q) = %v, %v; want %v", form, n.Kind, f, want)
	}
}

func isZero(n Node) bool {
	return n.Kind == 0 && n.Text == "" && n.Num == 0 && n.Kids == nil && n.At == 0
}

// P2.2: At of each node is the offset of its parenthesis.
func TestRead(t *testing.T) {
	n, f := Read(`(XInfix "+" (XInt 1) (XName "x"))`)
	if f != (api.Fault{}) || n.Kind != XInfix || n.Text != "+" || n.Num != 0 || n.At != 0 || len(n.Kids) != 2 {
		t.Fatalf("Read = %v, %v", n, f)
	}
	if k := n.Kids[0]; k.Kind != XInt || k.Text != "" || k.Num != 1 || k.At != 12 || len(k.Kids) != 0 {
		t.Errorf("the first kid is %v", k)
	}
	if k := n.Kids[1]; k.Kind != XName || k.Text != "x" || k.Num != 0 || k.At != 21 || len(k.Kids) != 0 {
		t.Errorf("the second kid is %v", k)
	}
	for k := range Kinds {
		n, f := Read(samples[k])
		if f != (api.Fault{}) || !Equal(n, sample(t, k)) {
			t.Errorf("Read(%s) = %v, %v", samples[k], n, f)
		}
		for x := range preorder(&n) {
			if !strings.HasPrefix(samples[k][x.At:], "("+Name(x.Kind)) {
				t.Errorf("%s: a %s at %d", samples[k], Name(x.Kind), x.At)
			}
		}
	}
}

// P2.2: Texts and Nums.
func TestReadLiterals(t *testing.T) {
	for _, c := range []struct{ form, text string }{
		{`(XString "a")`, "a"},
		{`(XString " ~'(){}$1")`, " ~'(){}$1"},
		{`(XString "\\\"\n\t")`, "\\\"\n\t"},
		{`(XString "\x00\x08\x0b\x1f\x7f\x80\xff")`, "\x00\x08\x0b\x1f\x7f\x80\xff"},
		{`(XString "\\x41")`, `\x41`},
		{`(XString)`, ""},
	} {
		if n, f := Read(c.form); f != (api.Fault{}) || n.Text != c.text {
			t.Errorf("Read(%s) = %q, %v", c.form, n.Text, f)
		}
	}
	for _, c := range []struct {
		form string
		num  int64
	}{
		{`(XLong)`, 0}, {`(XLong 1)`, 1}, {`(XLong 10)`, 10}, {`(XLong 9223372036854775807)`, math.MaxInt64},
		{`(STParam "A" -1 (SNone) (SNone))`, -1},
	} {
		if n, f := Read(c.form); f != (api.Fault{}) || n.Num != c.num {
			t.Errorf("Read(%s) = %d, %v", c.form, n.Num, f)
		}
	}
}

// P2.2: ErrSyntax at the first byte that continues no text form.
func TestReadSyntax(t *testing.T) {
	for _, c := range []struct {
		form string
		at   int
	}{
		// What stands around nodes.
		{"", 0}, {" ", 0}, {" (XThis)", 0}, {"XThis", 0}, {")", 0}, {"\x00", 0},
		{"(XThis) ", 7}, {"(XThis)(XThis)", 7}, {"(XThis))", 7}, {"(XThis)\x00", 7}, {"(XThis)\n", 7},
		{"(", 1}, {"(XThis", 6}, {"(XQuote ", 8}, {"(XQuote (XThis)", 15}, {"(XQuote (XThis) ", 16}, {"(XQuote (XThis", 14},
		{"(XQuote  (XThis))", 8}, {"(XQuote(XThis))", 7}, {"(XQuote (XThis) )", 16}, {"(XQuote )", 8}, {"(XQuote\t(XThis))", 7},
		{"(XQuote (XThis)(XThis))", 15}, {"(XQuote (XThis)x)", 15}, {"(XQuote x)", 8}, {"(XQuote \x00)", 8}, {"(XQuote (XThis)\x00)", 15},
		// Names of kinds.
		{"()", 1}, {"( XThis)", 1}, {"(xThis)", 1}, {"(Foo)", 1}, {"(XThis (Foo))", 8}, {"(XThi)", 1}, {"(XThisx)", 1}, {"(XNames)", 1},
		{"(XTHIS)", 1}, {"(1)", 1}, {"(\"a\")", 1}, {"(Kinds)", 1}, {"(Foo", 1}, {"(XThisx", 1}, {"(x", 1}, {"(Foo \"\")", 1},
		{"(XThis1)", 6}, {"(XThis_)", 6}, {"(XThis.)", 6}, {"(XThis\"a\")", 6}, {"(XThis\x00", 6},
		{"(X", 2}, {"(XThi", 5}, {"(S", 2}, {"(SCas", 5}, {"(XQuote (XThi", 13},
		// Texts.
		{`(XName "")`, 7}, {`(XName "" 1`, 7}, {`(XName "`, 8}, {`(XName "a`, 9}, {`(XName "a"`, 10}, {`(XName "a" `, 11},
		{`(XName "a"b)`, 10}, {`(XName "a"1)`, 10}, {`(XName "a"(XThis))`, 10}, {`(XName "a" "b")`, 11}, {`(XName "a"")`, 10},
		{`(XInt 1 "a")`, 8}, {`(XQuote (XThis) "a")`, 16}, {`(XName 'a')`, 7}, {`(XName a)`, 7},
		{`(XName "\a")`, 7}, {`(XName "ab\'")`, 7}, {`(XName "\$")`, 7}, {`(XName "\N")`, 7}, {`(XName "\0")`, 7}, {`(XName "\ n")`, 7},
		{`(XName "\x41")`, 7}, {`(XName "\x20")`, 7}, {`(XName "\x7e")`, 7}, {`(XName "\x70")`, 7}, {`(XName "\x22")`, 7}, {`(XName "\x5c")`, 7},
		{`(XName "\x0a")`, 7}, {`(XName "\x09")`, 7}, {`(XName "\x0A")`, 7}, {`(XName "\xFF")`, 7}, {`(XName "\xg0")`, 7}, {`(XName "\x0g")`, 7},
		{`(XName "\x1")`, 7}, {`(XName "\x")`, 7}, {`(XName "\X00")`, 7}, {`(XName "\x00\x4`, 7}, {`(XName "\x2`, 7}, {`(XName "\x6`, 7}, {`(XName "\xg`, 7},
		{"(XName \"a\nb\")", 7}, {"(XName \"\t\")", 7}, {"(XName \"a\x00\")", 7}, {"(XName \"\x7f\")", 7}, {"(XName \"\x80\")", 7}, {"(XName \"\xff", 7},
		{`(XName "\`, 9}, {`(XName "\x`, 10}, {`(XName "\x0`, 11}, {`(XName "\x7`, 11}, {`(XName "\x8`, 11}, {`(XName "\x00`, 12}, {`(XName "a\n`, 11}, {`(XName "\")`, 11},
		{`(XQuote (XName "")`, 15}, {`(XQuote (XName "a\y"`, 15},
		// Nums.
		{"(XInt 0)", 6}, {"(XInt 01)", 6}, {"(XInt 00)", 6}, {"(XInt -0)", 6}, {"(XInt -01)", 6}, {"(XInt -)", 6}, {"(XInt --1)", 6}, {"(XInt -a)", 6},
		{"(XInt 9223372036854775808)", 6}, {"(XInt -9223372036854775809)", 6}, {"(XInt 99999999999999999999)", 6}, {"(XInt +1)", 6},
		{"(XInt 0", 6}, {"(XInt 00", 6}, {"(XInt 9223372036854775808", 6}, {"(XName \"a\" 0)", 11},
		{"(XInt 1a)", 7}, {"(XInt 1.0)", 7}, {"(XInt 1-1)", 7}, {"(XInt 1(XThis))", 7}, {"(XInt 1 1)", 8}, {"(XInt 1 -1)", 8}, {"(XQuote (XThis) 1)", 16},
		{"(XInt ", 6}, {"(XInt -", 7}, {"(XInt 1", 7}, {"(XInt 12", 8}, {"(XInt -1", 8}, {"(XInt 1 ", 8},
	} {
		wantRead(t, c.form, c.at, api.ErrSyntax)
	}
}

// P2.2: at the end of each beginning of a text form something is missing.
func TestReadBeginnings(t *testing.T) {
	forms := append([]string{
		`(XString "\\\"\n\t\x00\x1f\x7f\x80\xff")`,
		`(STParam "A" -1 (TName "B") (SNone) (SNone))`,
		`(XBlock (XLong 9223372036854775807) (XNamed "ab" (XName "a")) (SMods 4096))`,
	}, samples[:]...)
	for _, form := range forms {
		for end := range len(form) {
			wantRead(t, form[:end], end, api.ErrSyntax)
		}
	}
}

// P2.2: the limit of the text, ahead of its syntax.
func TestReadLimit(t *testing.T) {
	const limit = 4 * api.MaxText
	form := `(XString "` + strings.Repeat(`\x01`, api.MaxText-3) + `")`
	if n, f := Read(form); len(form) != limit || f != (api.Fault{}) || len(n.Text) != api.MaxText-3 {
		t.Errorf("the longest form: %v", f)
	}
	wantRead(t, form+" ", 0, api.ErrLimit)
	wantRead(t, strings.Repeat("?", limit+1), 0, api.ErrLimit)
	wantRead(t, strings.Repeat("?", limit), 0, api.ErrSyntax)
}

// P2.2: what is nested too deeply, behind the faults of the syntax.
func TestReadDepth(t *testing.T) {
	nest := func(depth int) string {
		return strings.Repeat("(XQuote ", depth-1) + "(XThis)" + strings.Repeat(")", depth-1)
	}
	if n, f := Read(nest(api.MaxNest)); f != (api.Fault{}) || Depth(n) != api.MaxNest {
		t.Errorf("nested as deep as may be: %v", f)
	}
	wantRead(t, nest(api.MaxNest+1), 8*api.MaxNest, api.ErrDepth)
	wantRead(t, nest(api.MaxNest+9), 8*api.MaxNest, api.ErrDepth)
	wantRead(t, nest(29000), 8*api.MaxNest, api.ErrDepth)
	wantRead(t, "(XBlock "+nest(api.MaxNest)+" "+nest(api.MaxNest)+")", 8*api.MaxNest, api.ErrDepth)
	wantRead(t, "(XBlock (XThis) "+nest(api.MaxNest)+")", 8*api.MaxNest+8, api.ErrDepth)
	wantRead(t, "(XBlock (XThis 1) "+nest(api.MaxNest)+")", 8*api.MaxNest+10, api.ErrDepth)
	wantRead(t, nest(api.MaxNest+1)+"x", 9*api.MaxNest+7, api.ErrSyntax)
	wantRead(t, strings.Repeat("(XQuote ", 100), 800, api.ErrSyntax)
	wantRead(t, strings.Repeat("(XQuote ", 32768), 262144, api.ErrSyntax)
}

// P2.2: the faults of Check, at the node.
func TestReadCheck(t *testing.T) {
	for _, c := range []struct {
		form string
		at   int
		code api.Errno
	}{
		{`(SVal "a" (SMods) (SNone))`, 0, api.ErrForm},
		{`(XName "1")`, 0, api.ErrName},
		{`(XInfix "+" (XInt 1) (XName "a b"))`, 21, api.ErrName},
		{`(XInfix "+" (XInt -1) (XName "a b"))`, 12, api.ErrRange},
		{`(XInfix "+" (XQuote (XInt 2147483648)) (XName "a b"))`, 20, api.ErrRange},
		{`(XInfix "+" (XQuote (XTrue 1)) (XName "a b"))`, 20, api.ErrInvalid},
		{`(XInfix "+" (XQuote) (XName "a b"))`, 12, api.ErrForm},
		{`(XChar 256)`, 0, api.ErrRange},
		{`(SParent (TName "A") (XInt 1))`, 0, api.ErrForm},
		{`(SParents (SParent (TName "A") (XInt 1)))`, 10, api.ErrForm},
		{`(SParents (SParent 1 (TName "A") (XInt 1)) (SParent (TName "A") (XInt 1)))`, 43, api.ErrForm},
		{`(XString "` + strings.Repeat("a", api.MaxText+1) + `")`, 0, api.ErrForm},
		{`(XQuote (XString "` + strings.Repeat("a", api.MaxText+1) + `"))`, 8, api.ErrForm},
		{`(XBlock (XBlock` + copies("(XThis)", 200) + `) (XBlock` + copies("(XThis)", 201) + `))`, 8 + 7 + 200*8 + 2, api.ErrForm},
		{`(XBlock` + copies("(XThis)", api.MaxNodes) + `)`, 0, api.ErrLimit},
		{`(XBlock (XThis 1)` + copies("(XThis)", api.MaxNodes) + `)`, 0, api.ErrLimit},
	} {
		wantRead(t, c.form, c.at, c.code)
	}
}
