package tokens

import (
	"slices"
	"strings"
	"testing"

	"newel/api"
)

// pieces are tokens and parts of them, from which texts are made.
var pieces = []string{
	"a", "b1", "_", "_c", "def", "then", "return", "yield", "else", "1", "0", "42L", "'c'", `'\n'`, `'\x7b'`, `"s"`, `"\xff'$"`,
	`s"$`, `s"${`, `s"a`, `"`, "$", "${", "'{", "{", "}", "{", "}", "(", ")", "(", ")", "[", "]", ",", ".", ";", "@",
	"=", "=>", "<-", ":", "<:", ">:", "+", "::", "/", "*", "//", "/*", "*/", "// x\n", "/* y */", "\\x", "\\",
	" ", " ", " ", "\n", "\n", "\n  ", "\n    ", "\t",
}

// randomText is made of pieces, and has faults or not.
func randomText(d *dice) string {
	var b strings.Builder
	for range d.roll(24) {
		b.WriteString(d.pick(pieces))
	}
	return b.String()
}

// rightWords are texts of one or several tokens; they stay what they are
// whatever stands around the blanks between them.
var rightWords = []string{
	"a", "b1", "_", "def", "then", "else", "return", "1", "42L", "'c'", `'\x7b'`, `"s\n"`, `s""`, `s"$a\x62"`, `s"x${y + "z"}$this."`,
	"( a )", "[ a , b ]", "{ a }", "'{ a }", "${ a }", "=", "=>", "<-", ":", "+", "::", "-=", ",", ".", ";", "@",
}

// P1.5: Raw of Show has the same kinds and texts.
func TestShowAndRaw(t *testing.T) {
	d := dice(1)
	shown := 0
	for range 30000 {
		text := randomText(&d)
		l, f := Raw(text)
		if f.Code != api.OK {
			continue
		}
		shown++
		s, e := Show(l)
		if e != api.OK {
			t.Fatalf("Show of Raw(%q): %v", text, e)
		}
		if again := raw(t, s); listing(again) != listing(l) {
			t.Fatalf("Raw(%q) = %s; want %s", s, listing(again), listing(l))
		}
		if twice, _ := Show(raw(t, s)); twice != s {
			t.Fatalf("Show of Raw of %q = %q", s, twice)
		}
	}
	if shown < 3000 {
		t.Errorf("only %d texts without a fault", shown)
	}
}

// P1.5: blanks and comments between tokens change only At and Col.
func TestBlanksChangePlacesOnly(t *testing.T) {
	d := dice(2)
	for range 5000 {
		var plain, wide strings.Builder
		for range 1 + d.roll(10) {
			w := d.pick(rightWords)
			plain.WriteString(w + " ")
			wide.WriteString(d.pick([]string{"", " ", "\t", "/* a */", "/*/**/*/ "}) + w + d.pick([]string{" ", "\t ", " /* b */", "   /**/"}))
		}
		p, w := raw(t, plain.String()), raw(t, wide.String()+"// c")
		if listing(p) != listing(w) {
			t.Fatalf("%q and %q differ: %s, %s", plain.String(), wide.String(), listing(p), listing(w))
		}
		for i := range w {
			if w[i].Line != 0 || w[i].Col != w[i].At {
				t.Fatalf("%q: token %d at %s", wide.String(), i, places(w[i:i+1]))
			}
		}
	}
}

// P1.5: in a list with layout Indents and Outdents match, and the tokens of
// Raw are all there, in order.
func TestLayoutMatches(t *testing.T) {
	d := dice(3)
	indents, right := 0, 0
	for range 30000 {
		var b strings.Builder
		for range 1 + d.roll(12) {
			b.WriteString(d.pick([]string{"a", "b =", "then", "{", "}", "f(", ")", "{ x =>", "return", "+"}))
			b.WriteString(d.pick([]string{" ", "\n", "\n  ", "\n    ", "\n      "}))
		}
		l, f := Scan(b.String())
		if f.Code != api.OK {
			continue
		}
		right++
		checkLaidOut(t, b.String(), l)
		for _, k := range l {
			if k.Kind == Indent {
				indents++
			}
		}
	}
	if indents < 1000 || right < 3000 {
		t.Errorf("only %d Indents in %d lists", indents, right)
	}
}

func checkLaidOut(t *testing.T, text string, l []Token) {
	t.Helper()
	var plain []Token
	var open []string
	for i, k := range l {
		switch {
		case k.Kind == Indent:
			open = append(open, "")
		case k.Kind == Outdent:
			if len(open) == 0 || open[len(open)-1] != "" {
				t.Fatalf("%q: an Outdent that matches nothing: %s", text, brief(l))
			}
			open = open[:len(open)-1]
		case k.Kind == Mark && closer(k.Text) != "":
			open = append(open, k.Text)
		case k.Kind == Mark && closes(k.Text):
			if closer(open[len(open)-1]) != k.Text {
				t.Fatalf("%q: brackets and Indents cross: %s", text, brief(l))
			}
			open = open[:len(open)-1]
		}
		if k.Kind < Newline {
			plain = append(plain, k)
		} else if k.Text != "" || k.Kind != Stop && places(l[i:i+1]) != places(l[i+1:i+2]) {
			t.Fatalf("%q: %v", text, k)
		}
	}
	if len(open) > 0 || l[len(l)-1].Kind != Stop {
		t.Fatalf("%q: not closed: %s", text, brief(l))
	}
	if !slices.Equal(plain, raw(t, text)) {
		t.Fatalf("%q: other tokens: %s", text, brief(l))
	}
}

// P1.5: Scan of a text without line feeds puts nothing but the Stop.
func TestScanOfOneLine(t *testing.T) {
	d := dice(4)
	for range 5000 {
		text := strings.ReplaceAll(randomText(&d), "\n", " ")
		l, f := Scan(text)
		if f.Code != api.OK {
			continue
		}
		for i, k := range l {
			if k.Kind >= Newline && (k.Kind != Stop || i != len(l)-1) {
				t.Fatalf("%q: %s", text, brief(l))
			}
		}
	}
}

// P1: with a fault there is no list, without one there is a right one; no
// text and no list makes a function panic.
func TestEveryText(t *testing.T) {
	d := dice(5)
	for range 20000 {
		text := randomText(&d)
		if d.roll(4) == 0 {
			b := make([]byte, d.roll(12))
			for i := range b {
				b[i] = byte(d.roll(256))
			}
			text = string(b)
		}
		l, f := Raw(text)
		if f.Code == api.OK && f.At != 0 || f.Code != api.OK && l != nil || f.At < 0 || f.At > len(text) {
			t.Fatalf("Raw(%q) = %v, %v", text, l, f)
		}
		_, first := Scan(text)
		if f.Code != api.OK && first != f {
			t.Fatalf("Scan(%q): fault %v; that of Raw is %v", text, first, f)
		}
		if again, g := Raw(text); g != f || !slices.Equal(again, l) {
			t.Fatalf("Raw(%q) twice: %v, %v", text, f, g)
		}
	}
}

func TestEveryList(t *testing.T) {
	d := dice(6)
	laidOut := 0
	for range 20000 {
		l := make([]Token, d.roll(8))
		at, line, col := 0, 0, 0
		for i := range l {
			at, col = at+d.roll(4), col+d.roll(4)
			if d.roll(3) == 0 {
				line, col = line+1, d.roll(6)
			}
			l[i] = Token{d.roll(12), strings.TrimSpace(d.pick(pieces)), at, line, col}
		}
		got, f := Layout(l)
		if f.Code == api.OK && got[len(got)-1].Kind != Stop || f.Code != api.OK && got != nil {
			t.Fatalf("Layout(%v) = %v, %v", l, got, f)
		}
		if f.Code == api.OK {
			laidOut++
		}
		if s, e := Show(l); e != api.OK && (e != api.ErrForm || s != "") {
			t.Fatalf("Show(%v) = %q, %v", l, s, e)
		}
		for _, k := range l {
			Keyword(k.Text)
			Right(k.Text)
			operator := k.Text != "" && strings.Trim(k.Text, "+-*/%<>=!&|^~:?") == ""
			if p := Precedence(k.Text); p < -1 || p > 10 || (p == 0) != (operator && Assigns(k.Text)) {
				t.Fatalf("Precedence(%q) = %d", k.Text, p)
			}
		}
	}
	if laidOut < 1000 {
		t.Errorf("only %d lists without a fault", laidOut)
	}
}
