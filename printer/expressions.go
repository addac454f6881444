package printer

import (
	"strconv"

	"newel/api"
	"newel/syntax"
	"newel/tokens"
)

// Levels of expressions: what a rule of the grammar makes is made by the ones
// with a lower level, too.
const (
	anyExpr = iota
	matches // what operators and matches make
	infixes
	prefixes
	atoms
	simples // what may be selected from, and applied
)

// level returns the level of expressions of a kind.
func level(kind int) int {
	switch kind {
	case syntax.XLambda, syntax.XIf, syntax.XWhile, syntax.XFor, syntax.XTry,
		syntax.XThrow, syntax.XReturn, syntax.XAssign:
		return anyExpr
	case syntax.XMatch:
		return matches
	case syntax.XInfix:
		return infixes
	case syntax.XPrefix:
		return prefixes
	case syntax.XNew: // a point behind its type would belong to that
		return atoms
	}
	return simples
}

// operand writes an expression with something behind it, where the grammar asks
// for a level.
func (p *printer) operand(n syntax.Node, least int) {
	open, closing := parentheses(level(n.Kind) < least)
	p.within(open, closing, func() { p.node(n) })
}

// enclosed writes an expression in parentheses.
func (p *printer) enclosed(n syntax.Node) { p.list("(", ")", p.node, n) }

// selects writes the selection of a member. It alone may be one of super.
func (p *printer) selects(n syntax.Node) {
	if kid := n.Kids[0]; kid.Kind == syntax.XSuper {
		p.super(kid)
	} else {
		p.operand(kid, simples)
	}
	p.put(".")
	p.id(n.Text)
}

func (p *printer) super(n syntax.Node) {
	p.put("super")
	if n.Text != "" {
		p.put("[")
		p.word(n.Text)
		p.put("]")
	}
}

func (p *printer) this(syntax.Node) { p.put("this") }

// apply writes a function with its arguments.
func (p *printer) apply(n syntax.Node) {
	args := n.Kids[1:]
	p.operand(n.Kids[0], simples)
	if n.Num == 0 && len(args) == 1 && args[0].Kind == syntax.XBlock {
		p.put(" ")
		p.block(args[0])
		return
	}
	p.using(n.Num == 1, p.arg, args...)
}

// arg writes an argument. An assignment to a name would be an argument with a
// name.
func (p *printer) arg(n syntax.Node) {
	switch {
	case n.Kind == syntax.XNamed:
		p.word(n.Text)
		p.after(" =", n.Kids[0])
	case n.Kind == syntax.XAssign && n.Text == "=" && n.Kids[0].Kind == syntax.XName:
		p.enclosed(n)
	default:
		p.node(n)
	}
}

// typeArgs writes a function with its type arguments.
func (p *printer) typeArgs(n syntax.Node) {
	p.operand(n.Kids[0], simples)
	p.list("[", "]", p.typ, n.Kids[1:]...)
}

// infix writes an operator between its operands.
func (p *printer) infix(n syntax.Node) {
	p.side(n.Kids[0], n.Text, false)
	p.put(" ")
	p.name(n.Text, kindOf(n.Text) == tokens.Op && !tokens.Assigns(n.Text))
	p.put(" ")
	p.side(n.Kids[1], n.Text, true)
}

// side writes an operand of an operator.
func (p *printer) side(n syntax.Node, op string, right bool) {
	if n.Kind == syntax.XInfix && binds(n.Text, op, right) {
		p.operand(n, infixes)
	} else {
		p.operand(n, prefixes)
	}
}

// binds reports whether an operator stands in an operand of another one without
// parentheses.
func binds(inner, outer string, right bool) bool {
	a, b := tokens.Precedence(inner), tokens.Precedence(outer)
	return a > b || a == b && tokens.Right(inner) == right && tokens.Right(outer) == right
}

// prefix writes an operator in front of its operand. Two of them would be one.
func (p *printer) prefix(n syntax.Node) {
	p.put(n.Text)
	p.operand(n.Kids[0], atoms)
}

// assign writes an assignment. Just = opens an indentation.
func (p *printer) assign(n syntax.Node) {
	p.operand(n.Kids[0], matches)
	if n.Text == "=" {
		p.after(" =", n.Kids[1])
		return
	}
	p.put(" ")
	p.name(n.Text, kindOf(n.Text) == tokens.Op)
	p.put(" ")
	p.node(n.Kids[1])
}

// literal writes a token that is an expression.
func (p *printer) literal(n syntax.Node) {
	switch n.Kind {
	case syntax.XInt:
		p.put(strconv.FormatInt(n.Num, 10))
	case syntax.XLong:
		p.put(strconv.FormatInt(n.Num, 10), "L")
	case syntax.XChar:
		p.put(p.shown(tokens.Token{Kind: tokens.Char, Text: string([]byte{byte(n.Num)})}))
	case syntax.XString:
		p.put(p.shown(tokens.Token{Kind: tokens.String, Text: n.Text}))
	case syntax.XTrue:
		p.put("true")
	case syntax.XFalse:
		p.put("false")
	case syntax.XNull:
		p.put("null")
	case syntax.XUnit:
		p.put("()")
	}
}

// shown returns the canonical form of tokens. There is none if it is too long.
func (p *printer) shown(list ...tokens.Token) string {
	if p.long {
		return ""
	}
	form, e := tokens.Show(list)
	p.long = e != api.OK
	return form
}

// interpolated writes an interpolated string.
func (p *printer) interpolated(n syntax.Node) {
	p.word(n.Text)
	p.put(`"`)
	p.part(n.Kids[0])
	for i := 1; i < len(n.Kids); i += 2 {
		p.hole(n.Kids[i], n.Kids[i+1].Text)
		p.part(n.Kids[i+1])
	}
	p.put(`"`)
}

// part writes the characters between expressions of an interpolated string.
func (p *printer) part(n syntax.Node) {
	const start = "s"
	form := p.shown(tokens.Token{Kind: tokens.Start, Text: start}, tokens.Token{Kind: tokens.Part, Text: n.Text}, tokens.Token{Kind: tokens.End})
	if form != "" {
		p.put(form[len(start)+1 : len(form)-1])
	}
}

// hole writes an expression of an interpolated string in front of characters.
func (p *printer) hole(n syntax.Node, next string) {
	if (n.Kind == syntax.XName || n.Kind == syntax.XThis) && !goesOn(next) {
		p.put("$")
		p.node(n)
		return
	}
	p.flatly(func() { p.within("${", "}", func() { p.node(n) }) })
}

// goesOn reports whether a name goes on with the first byte of a text.
func goesOn(text string) bool {
	return text != "" && (tokens.Precedence(text[:1]) == 1 || '0' <= text[0] && text[0] <= '9')
}

// block writes statements in braces.
func (p *printer) block(n syntax.Node) { p.braced("{", p.node, n.Kids...) }

// quote writes a quote, which is one of statements.
func (p *printer) quote(n syntax.Node) { p.quoted("'{", n.Kids[0]) }

// splice writes a splice, which is one of statements.
func (p *printer) splice(n syntax.Node) { p.quoted("${", n.Kids[0]) }

func (p *printer) quoted(open string, n syntax.Node) {
	p.wrong = p.wrong || n.Kind != syntax.XBlock
	p.braced(open, p.node, n.Kids...)
}

// typed writes an expression with a type.
func (p *printer) typed(n syntax.Node) {
	p.within("(", ")", func() {
		p.operand(n.Kids[0], matches)
		p.colon()
		p.typ(n.Kids[1])
	})
}

// newExpr writes the creation of an object.
func (p *printer) newExpr(n syntax.Node) {
	p.put("new ")
	p.joined(" with ", p.parent, n.Kids[0].Kids...)
	p.optional("", p.body, n.Kids[1])
}
