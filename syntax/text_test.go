package syntax

import (
	"math"
	"strings"
	"testing"

	"newel/api"
)

func wantForm(t *testing.T, n Node, want string) {
	t.Helper()
	got, e := Text(n)
	if got != want || e != api.OK {
		t.Errorf("Text = %.200q, %v; want %.200q", got, e, want)
	}
}

// wantTextError checks that Text gives an error and nothing else.
func wantTextError(t *testing.T, what string, n Node, want api.Errno) {
	t.Helper()
	if got, e := Text(n); got != "" || e != want {
		t.Errorf("%s: Text = %.80q, %v; want %v", what, got, e, want)
	}
}

// P2.2: kinds, Texts, Nums and kids, and no At.
func TestText(t *testing.T) {
	x := Node{Kind: XName, Text: "x", At: 7}
	wantForm(t, Node{Kind: XInfix, Text: "+", Kids: []Node{{Kind: XInt, Num: 1, At: -4}, x}, At: 9}, `(XInfix "+" (XInt 1) (XName "x"))`)
	wantForm(t, Node{}, `(SNone)`)
	wantForm(t, Node{Kind: XInt}, `(XInt)`)
	wantForm(t, Node{Kind: XLong, Num: math.MaxInt64}, `(XLong 9223372036854775807)`)
	wantForm(t, Node{Kind: STParam, Text: "A", Num: -1, Kids: []Node{{}, {}}}, `(STParam "A" -1 (SNone) (SNone))`)
	wantForm(t, Node{Kind: SVal, Text: "a", Num: 2, Kids: []Node{{Kind: SMods, Num: 4096}, {}, x}}, `(SVal "a" 2 (SMods 4096) (SNone) (XName "x"))`)
	a := Node{Kind: TName, Text: "A"}
	wantForm(t, Node{Kind: SParent, Kids: []Node{a}}, `(SParent (TName "A"))`)
	wantForm(t, Node{Kind: SParent, Num: 1, Kids: []Node{a}}, `(SParent 1 (TName "A"))`)
	wantForm(t, Node{Kind: SParent, Num: 1, Kids: []Node{a, x}}, `(SParent 1 (TName "A") (XName "x"))`)
	wantForm(t, Node{Kind: XString}, `(XString)`)
	wantForm(t, Node{Kind: XBlock, Kids: []Node{}}, `(XBlock)`)
	for k := range Kinds {
		wantForm(t, sample(t, k), samples[k])
	}
}

// P2.2: the escapes of all bytes.
func TestTextEscapes(t *testing.T) {
	text := func(s, form string) {
		t.Helper()
		wantForm(t, Node{Kind: XString, Text: s}, `(XString "`+form+`")`)
	}
	text("a\\\"\n\tb", `a\\\"\n\tb`)
	text("\x00\x01\x0d\x1f\x7f\x80\xab\xff", `\x00\x01\x0d\x1f\x7f\x80\xab\xff`)
	text(" ~'(){}$", ` ~'(){}$`)
	text("\u00e9", `\xc3\xa9`)
	text(`\x41`, `\\x41`)
	for b := range 256 {
		s := string([]byte{byte(b)})
		switch {
		case strings.Contains("\\\"\n\t", s):
		case b < 32 || b > 126:
			text(s, `\x`+string("0123456789abcdef"[b/16])+string("0123456789abcdef"[b%16]))
		default:
			text(s, s)
		}
	}
}

// P2.2: the errors of Check, and the limit of the text form.
func TestTextErrors(t *testing.T) {
	for _, c := range []struct {
		form string
		code api.Errno
	}{
		{`(XName "1")`, api.ErrName},
		{`(XQuote (XInt -1))`, api.ErrRange},
		{`(XThis 1)`, api.ErrInvalid},
		{`(SVal "a" (SMods) (SNone))`, api.ErrForm},
		{`(SParent (TName "A") (XInt 1))`, api.ErrForm},
	} {
		wantTextError(t, c.form, shape(t, c.form), c.code)
	}
	wantTextError(t, "an unknown kind", Node{Kind: Kinds}, api.ErrKind)
	wantTextError(t, "nested too deeply", chain(api.MaxNest+1), api.ErrDepth)
	wantTextError(t, "too many nodes", wide(api.MaxNodes+1), api.ErrLimit)
	wantTextError(t, "a string that is too long", Node{Kind: XString, Text: strings.Repeat("a", api.MaxText+1)}, api.ErrForm)
}

// P2.2: a text form has at most 4 * api.MaxText bytes.
func TestTextLimit(t *testing.T) {
	const limit = 4 * api.MaxText
	s := func(size int) Node { return Node{Kind: XString, Text: strings.Repeat("\x01", size)} } // 4*size+12 bytes
	wantForm(t, s(api.MaxText-3), `(XString "`+strings.Repeat(`\x01`, api.MaxText-3)+`")`)
	longest := s(api.MaxText - 3)
	if form, e := Text(longest); e != api.OK || len(form) != limit {
		t.Errorf("the longest form has %d bytes, %v", len(form), e)
	}
	longest.Text += "a"
	wantTextError(t, "a byte more", longest, api.ErrLimit)
	wantTextError(t, "the longest string", s(api.MaxText), api.ErrLimit)

	block := Node{Kind: XBlock, Kids: []Node{s(api.MaxText - 8), {Kind: XThis}}}
	if form, e := Text(block); e != api.OK || len(form) != limit-20+9+8 {
		t.Errorf("the block has %d bytes, %v", len(form), e)
	}
	block.Kids = append(block.Kids, block.Kids...)
	wantTextError(t, "two long strings", block, api.ErrLimit)
	for range 8 {
		block = Node{Kind: XBlock, Kids: []Node{block, block}}
	}
	wantTextError(t, "many long strings", block, api.ErrLimit)
}
