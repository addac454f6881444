package parser

import (
	"strconv"

	"newel/syntax"
	"newel/tokens"
)

// atom reads the smallest expressions.
func (p *parser) atom() syntax.Node {
	t := p.peek()
	switch t.Kind {
	case tokens.Name:
		p.take()
		return named(syntax.XName, t.Text, t.At)
	case tokens.Indent:
		return p.block()
	case tokens.Start:
		return p.interpolated()
	case tokens.Mark:
		return p.bracketed()
	case tokens.Key:
		switch t.Text {
		case "this":
			p.take()
			return node(syntax.XThis, t.At)
		case "super":
			return p.super()
		case "new":
			return p.newExpr()
		}
	}
	if !isLiteral(t) {
		p.fail()
	}
	return p.literal()
}

// isLiteral reports whether a token is a literal by itself.
func isLiteral(t tokens.Token) bool {
	switch t.Kind {
	case tokens.Int, tokens.Long, tokens.Char, tokens.String:
		return true
	case tokens.Key:
		return t.Text == "true" || t.Text == "false" || t.Text == "null"
	}
	return false
}

// literal reads a token that is a literal.
func (p *parser) literal() syntax.Node {
	t := p.take()
	switch t.Kind {
	case tokens.Int:
		return number(syntax.XInt, t.Text, t.At)
	case tokens.Long:
		return number(syntax.XLong, t.Text, t.At)
	case tokens.Char:
		n := node(syntax.XChar, t.At)
		n.Num = int64(t.Text[0])
		return n
	case tokens.String:
		return named(syntax.XString, t.Text, t.At)
	}
	switch t.Text {
	case "true":
		return node(syntax.XTrue, t.At)
	case "false":
		return node(syntax.XFalse, t.At)
	}
	return node(syntax.XNull, t.At)
}

// number makes a literal of digits, which are in the range of their token.
func number(kind int, digits string, at int) syntax.Node {
	n := node(kind, at)
	n.Num, _ = strconv.ParseInt(digits, 10, 64)
	return n
}

// bracketed reads an atom that begins with a bracket.
func (p *parser) bracketed() syntax.Node {
	at := p.peek().At
	switch p.peek().Text {
	case "(":
		return p.parenthesized()
	case "{":
		return p.block()
	case "'{":
		return node(syntax.XQuote, at, p.block())
	case "${":
		return node(syntax.XSplice, at, p.block())
	}
	p.fail()
	return syntax.Node{}
}

// parenthesized reads an expression in parentheses, perhaps with a type, or
// nothing in them.
func (p *parser) parenthesized() syntax.Node {
	at := p.needMark("(")
	if p.skipMark(")") {
		return node(syntax.XUnit, at)
	}
	n := p.expr()
	if p.skipMark(":") {
		n = node(syntax.XTyped, at, n, p.typ())
	}
	p.needMark(")")
	n.At = at // the parentheses belong to its text
	return n
}

// super reads a member of a superclass.
func (p *parser) super() syntax.Node {
	n := node(syntax.XSuper, p.needKey("super"))
	if p.skipMark("[") {
		n.Text = p.name().Text
		p.needMark("]")
	}
	p.needMark(".")
	return named(syntax.XSelect, p.id().Text, n.At, n)
}

// newExpr reads new.
func (p *parser) newExpr() syntax.Node {
	at := p.needKey("new")
	parents := p.left(syntax.SParents)
	parents.Kids = separated(p.newParent, p.with)
	if p.mark("{") || p.mark(":") && p.behind().Kind == tokens.Indent {
		return node(syntax.XNew, at, parents, p.body(p.members))
	}
	return node(syntax.XNew, at, parents, p.none())
}

// interpolated reads an interpolated string.
func (p *parser) interpolated() syntax.Node {
	start := p.take()
	n := named(syntax.XInterp, start.Text, start.At, p.part())
	for p.peek().Kind != tokens.End {
		n.Kids = append(n.Kids, p.hole(), p.part())
	}
	p.take()
	return n
}

// part reads the characters of an interpolated string up to its next expression.
func (p *parser) part() syntax.Node {
	t := p.take()
	return named(syntax.XString, t.Text, t.At)
}

// hole reads an expression of an interpolated string.
func (p *parser) hole() syntax.Node {
	t := p.peek()
	switch {
	case t.Kind == tokens.Name:
		p.take()
		return named(syntax.XName, t.Text, t.At)
	case p.skipKey("this"):
		return node(syntax.XThis, t.At)
	}
	p.needMark("${")
	n := p.expr()
	p.needMark("}")
	return n
}
