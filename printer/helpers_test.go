package printer

import (
	"strings"
	"testing"

	"newel/api"
	"newel/parser"
	"newel/syntax"
	"newel/tokens"
)

// line is the style of Line in the tests, which try all of them.
const line = Styles

// dice are numbers that look random and are the same in each run.
type dice uint64

// roll returns a number from 0 to n - 1.
func (d *dice) roll(n int) int {
	*d = *d*6364136223846793005 + 1442695040888963407
	return int(uint64(*d)>>33) % n
}

func (d *dice) pick(words ...string) string { return words[d.roll(len(words))] }

// shape returns the tree of a text form.
func shape(t *testing.T, form string) syntax.Node {
	t.Helper()
	n, fault := syntax.Read(form)
	if fault != (api.Fault{}) {
		t.Fatalf("%.300s: fault %v", form, fault)
	}
	return n
}

// form returns the text form of a tree.
func form(n syntax.Node) string {
	s, _ := syntax.Text(n)
	return s
}

// parsed returns the tree of a text.
func parsed(t *testing.T, parse func(string) (syntax.Node, api.Fault), text string) syntax.Node {
	t.Helper()
	n, fault := parse(text)
	if fault != (api.Fault{}) {
		t.Fatalf("%.300s: fault %v", text, fault)
	}
	return n
}

// reader returns the function of package parser for trees of a kind.
func reader(kind int) func(string) (syntax.Node, api.Fault) {
	switch syntax.Name(kind)[0] {
	case 'T':
		return parser.Type
	case 'P':
		return parser.Pattern
	case 'X':
		return parser.Expr
	}
	return parser.Parse
}

// in prints a tree in a style, or as a line.
func in(n syntax.Node, style int) (string, api.Errno) {
	if style == line {
		return Line(n)
	}
	return Print(n, style)
}

// wantError checks the error of a tree in all styles, and that there is no text.
func wantError(t *testing.T, what string, n syntax.Node, want api.Errno) {
	t.Helper()
	for style := range Styles + 1 {
		expected := want
		if style == line && n.Kind == syntax.SUnit && syntax.Check(n).Code == api.OK {
			expected = api.ErrKind
		}
		if text, e := in(n, style); e != expected || text != "" {
			t.Errorf("%.300s, style %d: %.300q, error %d; want error %d", what, style, text, e, expected)
		}
	}
}

// wantTexts prints a tree in all styles and checks what holds for each text.
func wantTexts(t *testing.T, n syntax.Node) {
	t.Helper()
	for style := range Styles + 1 {
		if style == line && n.Kind == syntax.SUnit {
			continue
		}
		text, e := in(n, style)
		if e != api.OK {
			t.Fatalf("style %d: error %d for the tree\n%.2000s", style, e, form(n))
		}
		wantText(t, n, style, text)
	}
}

// wantText checks what the chapter asks of a text of a tree in a style.
func wantText(t *testing.T, n syntax.Node, style int, text string) {
	t.Helper()
	got, fault := reader(n.Kind)(text)
	if fault != (api.Fault{}) || !syntax.Equal(got, n) {
		t.Fatalf("style %d: the tree\n%.2000s\nis printed as\n%s\nwhich is, with fault %v,\n%.2000s", style, form(n), text, fault, form(got))
	}
	for _, l := range strings.Split(text, "\n") {
		if strings.TrimRight(l, " \t") != l {
			t.Fatalf("style %d: a line ends with blanks or tabs:\n%s", style, text)
		}
	}
	if strings.Contains(text, "\n") && (style == line || !strings.HasSuffix(text, "\n")) {
		t.Fatalf("style %d: line feeds in\n%s", style, text)
	}
	if style == Indented {
		newPlaces(text).want(t, got)
		return
	}
	list, _ := tokens.Scan(text)
	for _, u := range list {
		if u.Kind == tokens.Indent || u.Kind == tokens.Outdent {
			t.Fatalf("style %d: an indentation in\n%s", style, text)
		}
	}
}

// places are what the offsets of a text tell about it.
type places struct {
	text    string
	open    map[int]int  // how many brackets are open in front of a token
	indents map[int]bool // where an indentation begins
}

func newPlaces(text string) places {
	p := places{text, map[int]int{}, map[int]bool{}}
	list, _ := tokens.Scan(text)
	depth := 0
	for _, u := range list {
		p.open[u.At] = depth
		switch {
		case u.Kind == tokens.Indent:
			p.indents[u.At] = true
		case u.Kind == tokens.Mark && strings.Contains(" ( [ { '{ ${ ", " "+u.Text+" "):
			depth++
		case u.Kind == tokens.Mark && strings.Contains(" ) ] } ", " "+u.Text+" "):
			depth--
		}
	}
	return p
}

// want checks what has to stand by indentation, and in lines of its own.
func (p places) want(t *testing.T, n syntax.Node) {
	t.Helper()
	switch n.Kind {
	case syntax.SUnit:
		p.wantLines(t, n.Kids)
	case syntax.SClass:
		p.wantIndented(t, n.Kids[4], p.text[min(n.Kids[4].At, len(p.text)-1)] == ':')
	case syntax.SDef:
		p.wantIndented(t, n.Kids[4], p.indents[n.Kids[4].At])
	case syntax.SVal:
		p.wantIndented(t, n.Kids[2], p.indents[n.Kids[2].At])
	case syntax.SGiven:
		p.wantIndented(t, n.Kids[4], p.indents[n.Kids[4].At])
	case syntax.XBlock: // a brace may be that of the first statement
		if p.indents[n.At] && !strings.HasPrefix(strings.TrimLeft(p.text[n.At:], "'$"), "{") {
			p.wantLines(t, n.Kids)
		}
	case syntax.SBody:
		if p.text[n.At] == ':' {
			p.wantLines(t, n.Kids)
		}
	}
	for _, k := range n.Kids {
		p.want(t, k)
	}
}

// wantIndented checks a body, or the value of a definition.
func (p places) wantIndented(t *testing.T, n syntax.Node, indented bool) {
	t.Helper()
	if n.Kind != syntax.SBody && n.Kind != syntax.XBlock || len(n.Kids) == 0 || p.open[n.At] > 0 {
		return
	}
	if !indented {
		t.Fatalf("what stands at %d is not written by indentation:\n%s", n.At, p.text)
	}
	p.wantLines(t, n.Kids)
}

// wantLines checks that nodes begin in lines of their own.
func (p places) wantLines(t *testing.T, nodes []syntax.Node) {
	t.Helper()
	for _, n := range nodes {
		start := strings.LastIndexByte(p.text[:n.At], '\n') + 1
		if strings.Trim(p.text[start:n.At], " ") != "" {
			t.Fatalf("what stands at %d does not begin in a line of its own:\n%s", n.At, p.text)
		}
	}
}
