package tokens

import (
	"strings"
	"testing"
)

// P1.4: all keywords, and some texts that are none.
func TestKeyword(t *testing.T) {
	all := strings.Fields("abstract case catch class def do else enum extends extension false final finally for given if import inline lazy match new null object override private return sealed super then this throw trait true try type using val var volatile while with yield")
	if len(all) != 42 {
		t.Fatalf("%d keywords", len(all))
	}
	for _, k := range all {
		if !Keyword(k) || listing(raw(t, k)) != "Key:"+k {
			t.Errorf("%s is a keyword", k)
		}
		if Keyword(k+"x") || Keyword(k[1:]) && k[1:] != "if" || Keyword(strings.ToUpper(k)) {
			t.Errorf("%s: a part of it is no keyword", k)
		}
	}
	for _, s := range []string{"", "_", "a", "=", "def ", " def", "Def", "def val", "package", "then\n"} {
		if Keyword(s) {
			t.Errorf("%q is no keyword", s)
		}
	}
}

// P1.4: the precedence of each first byte.
func TestPrecedence(t *testing.T) {
	for _, c := range []struct {
		words string
		want  int
	}{
		{"+= -= *= /= %= &= |= ^= ~= ?= := <<= >>= !== <== >== <:= ?:=", 0},
		{"a z A Z _ max _1 def x+ a= _= a+= Z== _1=", 1},
		{"| || |> |a=", 2},
		{"^ ^^", 3},
		{"& && &:", 4},
		{"= ! == != === => !!", 5},
		{"< > <= >= << >> <- <: >:", 6},
		{": :: :+", 7},
		{"+ - ++ -> +: +a= +_= -1= +.= +\xbc= +ä=", 8},
		{"* / % ** /%", 9},
		{"~ ? ~> ?: ?(=", 10},
		{"( ) [ ] { } , . ; @ ' \" $ # \\ ` 1 9x \x00 \x7f \xff ä \xbc= ä= \x00= \x7f= 5= 9+= (= )= {= ;= .= @= $= #+= \"= '=", -1},
	} {
		for _, w := range strings.Fields(c.words) {
			if got := Precedence(w); got != c.want {
				t.Errorf("Precedence(%q) = %d; want %d", w, got, c.want)
			}
		}
	}
	for _, w := range []string{"", " ", " +", "\t", "\n", " =", " +=", "\t=", "\n+="} {
		if got := Precedence(w); got != -1 {
			t.Errorf("Precedence(%q) = %d", w, got)
		}
	}
}

// P1.4: a first byte decides in front of = too; only operators are assignment
// operators.
func TestPrecedenceInFrontOfEquals(t *testing.T) {
	for b := range 256 {
		want := -1
		switch c := string([]byte{byte(b)}); {
		case strings.Contains("ABCDEFGHIJKLMNOPQRSTUVWXYZ_abcdefghijklmnopqrstuvwxyz", c):
			want = 1
		case strings.Contains("=!", c):
			want = 5
		case strings.Contains("<>", c):
			want = 6
		case strings.Contains("+-*/%&|^~:?", c):
			want = 0
		}
		if op := string([]byte{byte(b), '='}); Precedence(op) != want {
			t.Errorf("Precedence(%q) = %d; want %d", op, Precedence(op), want)
		}
	}
}

// P1.4: operators from the right.
func TestRight(t *testing.T) {
	for s, want := range map[string]bool{":": true, "::": true, "+:": true, "": false, ":+": false, "+": false, "a": false, ": ": false} {
		if got := Right(s); got != want {
			t.Errorf("Right(%q) = %v", s, got)
		}
	}
}

// P1.4: assignment operators.
func TestAssigns(t *testing.T) {
	for s, want := range map[string]bool{
		"+=": true, "-=": true, ":=": true, "<<=": true, "!==": true, "<==": true, ">==": true, "a=": true,
		"": false, "=": false, "==": false, "===": false, "=>=": false, "<=": false, ">=": false, "!=": false, "+": false, "=+": false, "+=+": false,
	} {
		if got := Assigns(s); got != want {
			t.Errorf("Assigns(%q) = %v", s, got)
		}
	}
}
