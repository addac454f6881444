package printer

import (
	"strings"

	"newel/syntax"
)

func (p *printer) wild(syntax.Node) { p.put("_") }

// bind writes a name for what a pattern matches. Some names match anything by
// themselves.
func (p *printer) bind(n syntax.Node) {
	p.word(n.Text)
	if kid := n.Kids[0]; kid.Kind != syntax.PWild || !isVariable(n.Text) {
		p.put(" @ ")
		p.closedPattern(kid)
	}
}

// isVariable reports whether a single name in a pattern is a variable.
func isVariable(name string) bool {
	return name[0] == '_' || 'a' <= name[0] && name[0] <= 'z'
}

// closedPattern writes a pattern behind which | may stand. That would become a
// part of a type.
func (p *printer) closedPattern(n syntax.Node) {
	open, closing := parentheses(n.Kind == syntax.PAlt || n.Kind == syntax.PTyped)
	p.within(open, closing, func() { p.node(n) })
}

// typedPattern writes a pattern with a type.
func (p *printer) typedPattern(n syntax.Node) {
	p.wordOrWild(n.Text)
	p.put(": ")
	p.typeAt(n.Kids[0], orLevel)
}

func (p *printer) literalPattern(n syntax.Node) { p.node(n.Kids[0]) }

// stable writes a path, which is none if it is a variable.
func (p *printer) stable(n syntax.Node) {
	p.wrong = p.wrong || isVariable(n.Text) && !strings.Contains(n.Text, ".")
	p.path(n.Text)
}

// extractor writes a pattern with patterns in it.
func (p *printer) extractor(n syntax.Node) {
	p.path(n.Text)
	p.list("(", ")", p.node, n.Kids...)
}

func (p *printer) alternatives(n syntax.Node) { p.joined(" | ", p.closedPattern, n.Kids...) }
