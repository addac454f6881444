package printer

import "newel/syntax"

// Levels of types: what a rule of the grammar makes is made by the ones with a
// lower level, too.
const (
	anyLevel = iota
	orLevel
	andLevel
	simpleLevel
)

// typeLevel returns the level of types of a kind.
func typeLevel(kind int) int {
	switch kind {
	case syntax.TFunction, syntax.TLambda, syntax.TMatch:
		return anyLevel
	case syntax.TOr:
		return orLevel
	case syntax.TAnd:
		return andLevel
	}
	return simpleLevel
}

// typ writes a type with something behind it.
func (p *printer) typ(n syntax.Node) { p.typeAt(n, anyLevel) }

// typeAt writes a type where the grammar asks for a level.
func (p *printer) typeAt(n syntax.Node, least int) {
	open, closing := parentheses(typeLevel(n.Kind) < least)
	p.within(open, closing, func() { p.node(n) })
}

// named writes a node that is nothing but a name.
func (p *printer) named(n syntax.Node) { p.word(n.Text) }

// typeSelect writes a member of a path.
func (p *printer) typeSelect(n syntax.Node) {
	p.typePath(n.Kids[0])
	p.put(".")
	p.word(n.Text)
}

// single writes the type of a path itself.
func (p *printer) single(n syntax.Node) {
	p.typePath(n.Kids[0])
	p.put(".type")
}

// typePath writes the path of a type, which has no operators as names.
func (p *printer) typePath(n syntax.Node) {
	switch n.Kind {
	case syntax.XThis:
		p.this(n)
	case syntax.XName:
		p.word(n.Text)
	default:
		p.typeSelect(n)
	}
}

// typeApply writes a type with its arguments.
func (p *printer) typeApply(n syntax.Node) {
	p.typeAt(n.Kids[0], simpleLevel)
	p.list("[", "]", p.typeArg, n.Kids[1:]...)
}

// typeArg writes an argument of a type.
func (p *printer) typeArg(n syntax.Node) {
	if n.Kind != syntax.TWild {
		p.typ(n)
		return
	}
	p.put("_")
	p.bounds(n.Kids[0], n.Kids[1])
}

// function writes a type of functions.
func (p *printer) function(n syntax.Node) {
	last := len(n.Kids) - 1
	params := n.Kids[:last]
	if last == 1 && typeLevel(params[0].Kind) >= orLevel {
		p.typ(params[0])
	} else {
		p.list("(", ")", p.typ, params...)
	}
	p.put(" => ")
	p.typ(n.Kids[last])
}

func (p *printer) and(n syntax.Node) {
	p.typeAt(n.Kids[0], andLevel)
	p.put(" & ")
	p.typeAt(n.Kids[1], simpleLevel)
}

func (p *printer) or(n syntax.Node) {
	p.typeAt(n.Kids[0], orLevel)
	p.put(" | ")
	p.typeAt(n.Kids[1], andLevel)
}

// typeLambda writes a type function.
func (p *printer) typeLambda(n syntax.Node) {
	p.wrong = p.wrong || len(n.Kids[0].Kids) == 0
	p.typeParams(n.Kids[0])
	p.put(" =>> ")
	p.typ(n.Kids[1])
}

// typeMatch writes a match type.
func (p *printer) typeMatch(n syntax.Node) {
	p.typeAt(n.Kids[0], orLevel)
	p.put(" match")
	p.group(p.typeCase, n.Kids[1:]...)
}

// typeCase writes a case of a match type.
func (p *printer) typeCase(n syntax.Node) {
	p.put("case ")
	p.typeAt(n.Kids[0], orLevel)
	p.put(" => ")
	p.typ(n.Kids[1])
}
