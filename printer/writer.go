package printer

import (
	"slices"
	"strings"

	"newel/api"
	"newel/syntax"
	"newel/tokens"
)

const signs = "+-*/%<>=!&|^~:?" // the bytes of operators

// printer writes a text. Where no text has a tree, or its text is too long, it
// goes on: the first of these errors counts wherever it is found.
type printer struct {
	rules   map[int]func(*printer, syntax.Node) // by kind
	style   int
	flat    bool   // no lines are begun
	tight   bool   // in braces, no lines are begun
	closed  int    // how many constructs are open in which no indentation may begin
	line    func() // begins a line
	text    strings.Builder
	outdent bool // an indentation has ended: what follows has to begin a line
	bare    bool // a return without a value has ended
	wrong   bool // no text has the tree
	long    bool // the text is too long; it is not written further
}

func newPrinter(style int, flat bool) *printer {
	p := &printer{rules: rules(), style: style, flat: flat}
	p.line = p.firstOrNext
	if flat {
		p.line = p.blank
	}
	return p
}

// whole writes a tree. A unit ends with a line feed, and so does what has one.
func (p *printer) whole(n syntax.Node) {
	p.node(n)
	if text := p.text.String(); n.Kind == syntax.SUnit && text != "" || strings.Contains(text, "\n") {
		p.put("\n")
	}
}

// firstOrNext begins a line that is not indented.
func (p *printer) firstOrNext() {
	if p.text.Len() > 0 {
		p.put("\n")
	}
}

func (p *printer) blank() { p.put(" ") }

// put writes parts.
func (p *printer) put(parts ...string) {
	for _, s := range parts {
		if p.long = p.long || p.text.Len()+len(s) > api.MaxText; p.long {
			return
		}
		if s != "" {
			p.text.WriteString(s)
			p.outdent, p.bare = false, false
		}
	}
}

// node writes a node by the rule of its kind. What has no rule has a text only
// as a part of certain nodes, whose rules write it themselves.
func (p *printer) node(n syntax.Node) {
	rule, ok := p.rules[n.Kind]
	if !ok {
		p.wrong = true
		return
	}
	rule(p, n)
}

// optional writes a node behind a text, if it is there.
func (p *printer) optional(text string, write func(syntax.Node), n syntax.Node) {
	if n.Kind != syntax.SNone {
		p.put(text)
		write(n)
	}
}

// joined writes nodes with a text between them.
func (p *printer) joined(separator string, write func(syntax.Node), nodes ...syntax.Node) {
	for i, n := range nodes {
		if i > 0 {
			p.put(separator)
		}
		write(n)
	}
}

// within writes something in brackets, or without them, in which no indentation
// begins.
func (p *printer) within(open, closing string, write func()) {
	p.put(open)
	p.closed++
	write()
	p.closed--
	p.put(closing)
}

// list writes nodes with commas between them in brackets.
func (p *printer) list(open, closing string, write func(syntax.Node), nodes ...syntax.Node) {
	p.within(open, closing, func() { p.joined(", ", write, nodes...) })
}

// parentheses returns the brackets around what needs them or not.
func parentheses(needed bool) (open, closing string) {
	if needed {
		return "(", ")"
	}
	return "", ""
}

// deeper runs a function for which lines begin further to the right.
func (p *printer) deeper(write func()) {
	outer := p.line
	if !p.flat {
		p.line = func() {
			outer()
			p.put("  ")
		}
	}
	write()
	p.line = outer
}

// flatly runs a function that begins no lines.
func (p *printer) flatly(write func()) {
	flat, line := p.flat, p.line
	p.flat, p.line = true, p.blank
	write()
	p.flat, p.line = flat, line
}

// items writes nodes in lines of their own.
func (p *printer) items(write func(syntax.Node), nodes ...syntax.Node) {
	for i, n := range nodes {
		if i > 0 {
			p.separate()
		}
		p.line()
		write(n)
	}
}

// separate ends an item, where the end of its line would not do it.
func (p *printer) separate() {
	// In braces, what stands behind a return in a line further to the right than
	// that of the brace would be its value.
	returns := p.bare && p.closed > 0
	if !p.flat && !returns && !p.unfinished() {
		return
	}
	if p.outdent { // here it would belong to the indentation
		p.line()
	}
	p.put(";")
}

// unfinished reports whether what has been written would go on in the next line.
// Of the keywords that do so, type alone ends an item.
func (p *printer) unfinished() bool {
	return p.endsInSign() || strings.HasSuffix(p.text.String(), ".type")
}

// endsInSign reports whether an operator has been written last.
func (p *printer) endsInSign() bool {
	text := p.text.String()
	return strings.TrimRight(text, signs) != text
}

// colon writes a colon that does not become part of an operator.
func (p *printer) colon() {
	if p.endsInSign() {
		p.put(" ")
	}
	p.put(": ")
}

// indents reports whether nodes may be written by indentation here.
func (p *printer) indents(nodes ...syntax.Node) bool {
	return p.style == Indented && p.closed == 0 && len(nodes) > 0
}

// group writes nodes by indentation where this is possible, otherwise in braces.
func (p *printer) group(write func(syntax.Node), nodes ...syntax.Node) {
	if !p.indents(nodes...) {
		p.put(" ")
		p.braced("{", write, nodes...)
		return
	}
	p.deeper(func() { p.items(write, nodes...) })
	p.outdent = true
}

// braced writes nodes in braces, in one line if they are short.
func (p *printer) braced(open string, write func(syntax.Node), nodes ...syntax.Node) {
	if p.tight || short(nodes...) {
		p.flatly(func() { p.lines(open, write, nodes...) })
	} else {
		p.lines(open, write, nodes...)
	}
}

// lines writes nodes in braces, in lines of their own.
func (p *printer) lines(open string, write func(syntax.Node), nodes ...syntax.Node) {
	p.within(open, "}", func() {
		p.deeper(func() { p.items(write, nodes...) })
		if len(nodes) > 0 {
			p.line()
		}
	})
}

// short reports whether nodes are just one expression or generator without
// anything that is written in lines.
func short(nodes ...syntax.Node) bool {
	return len(nodes) == 1 && (isExpression(nodes[0].Kind) || nodes[0].Kind == syntax.SGenerator) && !hasLines(nodes[0])
}

// hasLines reports whether something in a tree is written in lines.
func hasLines(n syntax.Node) bool {
	switch n.Kind {
	case syntax.XMatch, syntax.XTry, syntax.XFor, syntax.TMatch:
		return true
	case syntax.XBlock, syntax.SBody:
		return len(n.Kids) > 0 && !short(n.Kids...)
	}
	return slices.ContainsFunc(n.Kids, hasLines)
}

// after writes an expression behind something that may open an indentation.
func (p *printer) after(opener string, n syntax.Node) {
	p.put(opener)
	if n.Kind == syntax.XBlock {
		p.group(p.node, n.Kids...)
		return
	}
	p.put(" ")
	p.node(n)
}

// key writes a keyword that goes on with what has been written.
func (p *printer) key(word string) {
	if p.outdent {
		p.line()
	} else {
		p.put(" ")
	}
	p.put(word)
}

// word writes a name of letters.
func (p *printer) word(name string) {
	p.name(name, kindOf(name) == tokens.Name)
}

// id writes a name of letters or an operator.
func (p *printer) id(name string) {
	kind := kindOf(name)
	p.name(name, kind == tokens.Name || kind == tokens.Op)
}

// wordOrWild writes a name of letters, or _ in place of one.
func (p *printer) wordOrWild(name string) {
	p.name(name, name == "_" || kindOf(name) == tokens.Name)
}

// name writes a name that is one or is not.
func (p *printer) name(name string, is bool) {
	p.wrong = p.wrong || !is
	p.put(name)
}

// kindOf returns the kind of the one token that a text is, -1 if it is none.
func kindOf(text string) int {
	list, fault := tokens.Raw(text)
	if fault.Code != api.OK || len(list) != 1 || list[0].Text != text {
		return -1
	}
	return list[0].Kind
}
