package tokens

import (
	"math"
	"strings"
	"testing"

	"newel/api"
)

// P1.2: what is put where.
func TestLayout(t *testing.T) {
	for _, c := range []struct{ text, want string }{
		{"", "Stop"},
		{"\n\n", "Stop"},
		{"a b", "a b Stop"},
		{"a\nb\n\nc", "a Newline b Newline c Stop"},
		{"  a\n  b", "a Newline b Stop"},
		// rule 1
		{"def f =\n  a\n  b\ng", "def f = Indent a Newline b Outdent Newline g Stop"},
		{"def f =\n  a", "def f = Indent a Outdent Stop"},
		{"def f =\na", "def f = a Stop"},
		{"def f =\n  def g =\n    a\n  b\nc", "def f = Indent def g = Indent a Outdent Newline b Outdent Newline c Stop"},
		{"a =\n  b =\n    c\nd", "a = Indent b = Indent c Outdent Outdent Newline d Stop"},
		{"  a =\n  b", "a = b Stop"},
		{"a b =\n c", "a b = Indent c Outdent Stop"},
		// without an opener, a deeper line opens nothing
		{"a\n  b\nc", "a Newline b Newline c Stop"},
		{"a +\n  b\nc", "a + b Newline c Stop"},
		// braces and splices
		{"{\n  a\n  b\n}\nc", "{ a Newline b } Newline c Stop"},
		{"{\n    a\n  b\n      c\n}", "{ a Newline b Newline c } Stop"},
		{"{ a\nb }", "{ a Newline b } Stop"},
		{"'{\n  a\n  b\n}", "'{ a Newline b } Stop"},
		{"${\n  a\n  b\n}", "${ a Newline b } Stop"},
		{"  { x =>\n    a\n    b\n  }", "{ x => Indent a Newline b Outdent } Stop"},
		{"  { x =>\n  a\n  b\n  }", "{ x => a Newline b } Stop"},
		{"  a {\n b =\n   c\n }", "a { b = Indent c Outdent } Stop"},
		{"  a {\n b =\n  c\n }", "a { b = c } Stop"},
		{"{ x =>\n    a }\nb", "{ x => Indent a Outdent } Newline b Stop"},
		{"{ x =>\n    a\n  }\nb", "{ x => Indent a Outdent } Newline b Stop"},
		{"{ x =>\n    a\n    }", "{ x => Indent a Outdent } Stop"},
		{"{ x =>\n  a =\n    b }", "{ x => Indent a = Indent b Outdent Outdent } Stop"},
		{"{ x =>\n    a\n b =\n  c\n}", "{ x => Indent a Outdent Newline b = Indent c Outdent } Stop"},
		// inside of parentheses and square brackets
		{"f(\n a\n  b =\n    c\n)\nd", "f ( a b = c ) Newline d Stop"},
		{"f[\na\nb\n]", "f [ a b ] Stop"},
		{"f(a, {\n  b\n  c\n})", "f ( a , { b Newline c } ) Stop"},
		{"f({ x =>\n  a\n  b })", "f ( { x => Indent a Newline b Outdent } ) Stop"},
		{"{\n  f(\na\n)\n  b\n}", "{ f ( a ) Newline b } Stop"},
		// interpolated strings
		{"s\"a${\n  b\n  c\n}d\"\ne", "s a ${ b Newline c } d End Newline e Stop"},
		{"x s\"${ y =>\n  b\n}\"", "x s Part ${ y => Indent b Outdent } Part End Stop"},
		{"a\ns\"b\"", "a Newline s b End Stop"},
		// lines are those of tokens
		{"a /*\n*/ b", "a Newline b Stop"},
		{"a\n// b\n  // c\nd", "a Newline d Stop"},
		{"a =\n// b\n  c\n// d\n  e", "a = Indent c Newline e Outdent Stop"},
		{"a =\n\tb\n c", "a = Indent b Newline c Outdent Stop"},
	} {
		if got := brief(scan(t, c.text)); got != c.want {
			t.Errorf("Scan(%q) = %s; want %s", c.text, got, c.want)
		}
	}
}

// P1.2, rule 1: the openers, and nothing else, begin an indentation.
func TestLayoutOpeners(t *testing.T) {
	openers := ` : = => <- then else do match try catch finally yield return throw `
	for _, u := range strings.Fields(": = => <- <: >: , . ; @ _ + ++ abstract case catch class def do else enum extends extension false final finally for given if import inline lazy match new null object override private return sealed super then this throw trait true try type using val var volatile while with yield a 1 1L 'c' \"s\" s\"p\"") {
		got := kindsOf(scan(t, u+"\n  x"))
		opens := strings.Contains(got, "Indent Name Outdent")
		if want := strings.Contains(openers, " "+u+" "); opens != want {
			t.Errorf("%s in front of a deeper line: %s", u, got)
		}
		if opens && strings.Contains(got, "Newline") {
			t.Errorf("%s: a Newline at an Indent: %s", u, got)
		}
		if got := kindsOf(scan(t, u+"\nx")); strings.Contains(got, "Indent") {
			t.Errorf("%s in front of a line that is not deeper: %s", u, got)
		}
	}
	for _, kind := range []int{Name, Op, String, Part} { // the text alone makes no opener
		for _, text := range []string{"=", "then"} {
			if got, _ := Layout([]Token{{Kind: kind, Text: text}, {Kind: Name, At: 9, Line: 1, Col: 2}}); strings.Contains(kindsOf(got), "Indent") {
				t.Errorf("kind %d, %s: %s", kind, text, kindsOf(got))
			}
		}
	}
}

func kindsOf(l []Token) string {
	var words []string
	for _, t := range l {
		words = append(words, kindNames[t.Kind])
	}
	return strings.Join(words, " ")
}

// P1.2, rule 3: what is unfinished has no Newline behind it.
func TestLayoutUnfinished(t *testing.T) {
	finished := ` ) ] } @ _ false null return super this true a 1 1L 'c' "s" s"p" `
	for _, u := range strings.Fields(": = => <- <: >: ( [ { '{ ${ ) ] } , . ; @ _ + ++ == abstract case catch class def do else enum extends extension false final finally for given if import inline lazy match new null object override private return sealed super then this throw trait true try type using val var volatile while with yield a 1 1L 'c' \"s\" s\"p\"") {
		text := u + "\nx"
		switch {
		case closes(u):
			text = map[string]string{")": "(", "]": "[", "}": "{"}[u] + text
		case closer(u) != "":
			text += closer(u)
		}
		got := strings.Contains(kindsOf(scan(t, text)), "Newline")
		if want := strings.Contains(finished, " "+u+" "); got != want {
			t.Errorf("%q: Newline %v", text, got)
		}
	}
	l, _ := Layout([]Token{{Kind: Key, Text: "word"}, {Kind: Name, At: 9, Line: 1}})
	if got := kindsOf(l); got != "Key Newline Name Stop" {
		t.Errorf("a Key that is no keyword: %s", got)
	}
}

// P1.2, rule 3: a continuation has no Newline in front of it.
func TestLayoutContinuation(t *testing.T) {
	goesOn := " , . ; = => <- : <: >: catch do else extends finally match then with yield + ++ == "
	for _, u := range strings.Fields(", . ; @ _ = => <- : <: >: + ++ == abstract case catch class def do else enum extends extension false final finally for given if import inline lazy match new null object override private return sealed super then this throw trait true try type using val var volatile while with yield a 1 1L 'c' \"s\"") {
		got := strings.Contains(kindsOf(scan(t, "a\n"+u+" x")), "Newline")
		if want := !strings.Contains(goesOn, " "+u+" "); got != want {
			t.Errorf("a\\n%s x: Newline %v", u, got)
		}
	}
	for _, c := range []struct{ text, want string }{
		{"a\n+b", "a Newline + b Stop"},
		{"a\n+ b", "a + b Stop"},
		{"a\n+\nb", "a + b Stop"},
		{"a\n+/**/b", "a + b Stop"},
		{"a\n+", "a + Stop"},
		{"a\n->b", "a Newline -> b Stop"},
		{"a\n-> b", "a -> b Stop"},
		{"{ a\n}", "{ a } Stop"},
		{"a =\n  b\n+ c", "a = Indent b Outdent + c Stop"},
		{"if a then\n  b\nelse\n  c", "if a then Indent b Outdent else Indent c Outdent Stop"},
		{"a\n(b)", "a Newline ( b ) Stop"},
		{"a\n{ b }", "a Newline { b } Stop"},
	} {
		if got := brief(scan(t, c.text)); got != c.want {
			t.Errorf("Scan(%q) = %s; want %s", c.text, got, c.want)
		}
	}
}

// P1.2: the places of what is put, and the end.
func TestLayoutPlaces(t *testing.T) {
	for _, c := range []struct{ text, want string }{
		{"", "0/0/0"},
		{"// a\n\n", "0/0/0"},
		{" ab c\n", "1/0/1 4/0/4 5/1/0"},
		{"a =\n  b\n  c\nd", "0/0/0 2/0/2 6/1/2 6/1/2 10/2/2 10/2/2 12/3/0 12/3/0 12/3/0 13/4/0"},
		{"a =\n  b =\n    ccc", "0/0/0 2/0/2 6/1/2 6/1/2 8/1/4 14/2/4 14/2/4 15/3/0 15/3/0 15/3/0"},
		{"{ a =>\n  b}", "0/0/0 2/0/2 4/0/4 9/1/2 9/1/2 10/1/3 10/1/3 11/2/0"},
	} {
		if got := places(scan(t, c.text)); got != c.want {
			t.Errorf("Scan(%q) at %s; want %s", c.text, got, c.want)
		}
	}
}

// P1.2, rule 2: a line that fits no indentation.
func TestLayoutWidths(t *testing.T) {
	for _, c := range []struct {
		text string
		at   int
	}{
		{"  a\n b", 5},
		{"a =\n    b\n  c", 12},
		{"a =\n  b =\n      c\n    d", 22},
		{"  a =\n    b\n c", 13},
		{"  { x =>\n      a =\n        b\n    }\n c", 36},
		{"{ x =>\n  a =\n      b\n    c }", 25},
		{"a =\n    b\n  + c", 12},
		{"  a +\n b", 7},
	} {
		l, f := Scan(c.text)
		wantFault(t, c.text, l, f, api.Fault{At: c.at, Code: api.ErrOrder})
	}
}

// word is a name at a place.
func word(at, line, col int) Token { return Token{Name, "a", at, line, col} }

// mark is a mark at a place in the line 0.
func mark(text string, at int) Token { return Token{Mark, text, at, 0, at} }

// P1.2: lists that are not in order.
func TestLayoutListFaults(t *testing.T) {
	for _, c := range []struct {
		what string
		list []Token
		want api.Fault
	}{
		{"below the kinds", []Token{{Kind: -1}}, api.Fault{At: 0, Code: api.ErrKind}},
		{"a Newline", []Token{word(0, 0, 0), {Kind: Newline, At: 1, Col: 1}}, api.Fault{At: 1, Code: api.ErrKind}},
		{"a Stop", []Token{word(0, 0, 0), word(2, 0, 2), {Kind: Stop, At: 3, Line: 1}}, api.Fault{At: 2, Code: api.ErrKind}},
		{"above the kinds", []Token{{Kind: Kinds}}, api.Fault{At: 0, Code: api.ErrKind}},
		{"a kind and an order", []Token{word(5, 0, 5), {Kind: Indent, At: 1}}, api.Fault{At: 1, Code: api.ErrKind}},
		{"an order, then a kind", []Token{word(5, 0, 5), word(1, 0, 6), {Kind: Indent}}, api.Fault{At: 1, Code: api.ErrOrder}},
		{"Line", []Token{word(5, 1, 5), word(7, 0, 7)}, api.Fault{At: 1, Code: api.ErrOrder}},
		{"At, equal", []Token{word(5, 0, 5), word(5, 0, 7)}, api.Fault{At: 1, Code: api.ErrOrder}},
		{"At, less", []Token{word(5, 0, 5), word(4, 0, 7)}, api.Fault{At: 1, Code: api.ErrOrder}},
		{"At, in the next line", []Token{word(5, 0, 5), word(5, 1, 7)}, api.Fault{At: 1, Code: api.ErrOrder}},
		{"Col, equal", []Token{word(5, 0, 5), word(7, 0, 5)}, api.Fault{At: 1, Code: api.ErrOrder}},
		{"Col, less", []Token{word(5, 0, 5), word(7, 0, 4)}, api.Fault{At: 1, Code: api.ErrOrder}},
		{"At behind a Part", []Token{{Kind: Part, At: 5, Col: 5}, word(4, 0, 5)}, api.Fault{At: 1, Code: api.ErrOrder}},
		{"Col behind a Part", []Token{{Kind: Part, At: 5, Col: 5}, word(5, 0, 4)}, api.Fault{At: 1, Code: api.ErrOrder}},
		{"Line behind a Part", []Token{{Kind: Part, At: 5, Line: 1}, word(5, 0, 5)}, api.Fault{At: 1, Code: api.ErrOrder}},
		{"equal in front of a Part", []Token{word(5, 0, 5), {Kind: Part, At: 5, Col: 5}}, api.Fault{At: 1, Code: api.ErrOrder}},
		{"an order ahead of a bracket", []Token{mark(")", 0), word(0, 0, 5)}, api.Fault{At: 1, Code: api.ErrOrder}},
		{"no open bracket", []Token{word(10, 0, 10), mark(")", 12)}, api.Fault{At: 1, Code: api.ErrSyntax}},
		{"( ]", []Token{mark("(", 10), mark("]", 12)}, api.Fault{At: 1, Code: api.ErrSyntax}},
		{"[ }", []Token{mark("[", 10), mark("}", 12)}, api.Fault{At: 1, Code: api.ErrSyntax}},
		{"{ )", []Token{mark("{", 10), mark(")", 12)}, api.Fault{At: 1, Code: api.ErrSyntax}},
		{"( ) )", []Token{mark("(", 10), mark(")", 12), mark(")", 14)}, api.Fault{At: 2, Code: api.ErrSyntax}},
		{"open", []Token{mark("(", 10), mark("[", 12), mark("]", 13), word(14, 0, 14)}, api.Fault{At: 0, Code: api.ErrSyntax}},
		{"open twice", []Token{word(0, 0, 0), mark("{", 10), mark("[", 12)}, api.Fault{At: 2, Code: api.ErrSyntax}},
		{"open below an indentation", []Token{mark("{", 0), mark("=", 2), word(5, 1, 2)}, api.Fault{At: 0, Code: api.ErrSyntax}},
		{"an indentation and no bracket", []Token{mark("=", 2), word(5, 1, 3), {Mark, ")", 7, 1, 5}}, api.Fault{At: 2, Code: api.ErrSyntax}},
		{"a width ahead of a bracket", []Token{word(10, 0, 2), {Mark, "}", 20, 1, 0}}, api.Fault{At: 20, Code: api.ErrOrder}},
	} {
		l, f := Layout(c.list)
		wantFault(t, c.what, l, f, c.want)
	}
}

// P1.2: what is accepted though no text has it.
func TestLayoutListsAccepted(t *testing.T) {
	for _, c := range []struct {
		what string
		list []Token
		want string
	}{
		{"nil", nil, "0/0/0"},
		{"empty", []Token{}, "0/0/0"},
		{"equal places behind a Part", []Token{{Kind: Part, At: 5, Col: 5}, word(5, 0, 5)}, "5/0/5 5/0/5 6/1/0"},
		{"negative places", []Token{word(-9, -9, -9), word(-8, -8, -9)}, "-9/-9/-9 -8/-8/-9 -8/-8/-9 -7/-7/0"},
		{"a bracket of another kind", []Token{{Kind: Name, Text: "("}}, "0/0/0 1/1/0"},
	} {
		l, f := Layout(c.list)
		if got := places(l); got != c.want || f != (api.Fault{}) {
			t.Errorf("%s: %s, %v; want %s", c.what, got, f, c.want)
		}
	}
	far := []Token{{Name, "a", math.MinInt, 0, 0}, {Op, "+", math.MinInt + 1, 1, 0}, {Name, "b", math.MaxInt, 1, 1}}
	if l, _ := Layout(far); kindsOf(l) != "Name Op Name Stop" {
		t.Errorf("an operator far from the next token: %s", kindsOf(l))
	}
}

// P1.2: the limits of a list and of regions; the first region counts.
func TestLayoutLimits(t *testing.T) {
	many := make([]Token, maxTokens+1)
	for i := range many {
		many[i] = word(i, 0, i)
	}
	l, f := Layout(many)
	wantFault(t, "many tokens", l, f, api.Fault{Code: api.ErrLimit})
	if l, f = Layout(many[:maxTokens]); len(l) != maxTokens+1 || f != (api.Fault{}) {
		t.Errorf("%d tokens, fault %v", len(l), f)
	}
	many[maxTokens].Kind = Stop
	l, f = Layout(many)
	wantFault(t, "a kind ahead of the limit", l, f, api.Fault{At: maxTokens, Code: api.ErrKind})

	most := api.MaxNest - 1
	scan(t, strings.Repeat("(", most)+strings.Repeat(")", most))
	l, f = Scan("a" + strings.Repeat("(", most+1) + strings.Repeat(")", most+1))
	wantFault(t, "many brackets", l, f, api.Fault{At: most + 1, Code: api.ErrDepth})
	scan(t, steps(most))
	l, f = Scan(steps(most + 1))
	wantFault(t, "many indentations", l, f, api.Fault{At: 2 * (most + 1), Code: api.ErrDepth})
}

// steps is a text with n indentations.
func steps(n int) string {
	var b strings.Builder
	for i := range n {
		b.WriteString(strings.Repeat(" ", i) + "a =\n")
	}
	return b.String() + strings.Repeat(" ", n) + "b"
}

// R4: an argument stays as it is, and so does what is behind its end.
func TestLayoutKeepsItsArgument(t *testing.T) {
	l := raw(t, "a =\n  b\nc d e f g")
	before := append([]Token(nil), l...)
	part := l[:4]
	got, _ := Layout(part)
	if listing(l) != listing(before) || places(l) != places(before) {
		t.Errorf("changed: %v", l)
	}
	got[0].Text = "z"
	if l[0].Text != "a" {
		t.Errorf("the result shares memory with the argument")
	}
}
