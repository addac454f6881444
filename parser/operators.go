package parser

import (
	"newel/syntax"
	"newel/tokens"
)

// assignment reads an expression that begins with an operand, and what is
// assigned to it.
func (p *parser) assignment() syntax.Node {
	n := p.operation()
	t := p.peek()
	if isMark(t, "=") || t.Kind == tokens.Op && tokens.Assigns(t.Text) {
		p.take()
		return named(syntax.XAssign, t.Text, n.At, n, p.tail())
	}
	return n
}

// operation reads operands with operators between them, and matches of them.
func (p *parser) operation() syntax.Node {
	n := p.infix(0, false)
	for p.skipKey("match") {
		if !p.opening() {
			p.fail()
		}
		n = node(syntax.XMatch, n.At, append([]syntax.Node{n}, p.cases()...)...)
	}
	return n
}

// infix reads operands and the operators between them whose precedence is not
// less than a number. Inside is whether they are the right operand of an
// operator of just this precedence, which associates to the right.
func (p *parser) infix(least int, inside bool) syntax.Node {
	left := p.prefix()
	last := -1
	for {
		t := p.peek()
		if t.Kind != tokens.Op || tokens.Assigns(t.Text) {
			return left
		}
		precedence, right := tokens.Precedence(t.Text), tokens.Right(t.Text)
		if precedence < least {
			return left
		}
		if right && precedence == last || !right && inside && precedence == least {
			p.fail()
		}
		p.take()
		from := precedence
		if !right {
			from++
		}
		operand := nested(p, func() syntax.Node { return p.infix(from, right) })
		left = named(syntax.XInfix, t.Text, left.At, left, operand)
		last = precedence
	}
}

func isPrefix(op string) bool { return op == "-" || op == "!" || op == "~" || op == "+" }

// prefix reads an operand.
func (p *parser) prefix() syntax.Node {
	if t := p.peek(); t.Kind == tokens.Op && isPrefix(t.Text) {
		return nested(p, p.prefixed)
	}
	return p.simple()
}

// prefixed reads a prefix and its operand.
func (p *parser) prefixed() syntax.Node {
	t := p.take()
	return named(syntax.XPrefix, t.Text, t.At, p.prefix())
}

// simple reads an expression without operators, outside of brackets.
func (p *parser) simple() syntax.Node {
	n := p.atom()
	for {
		switch {
		case p.skipMark("."):
			n = named(syntax.XSelect, p.id().Text, n.At, n)
		case p.skipMark("["):
			types := some(p, p.typ, "]")
			n = node(syntax.XTypes, n.At, append([]syntax.Node{n}, types...)...)
		case p.skipMark("("):
			n = p.apply(n)
		case p.mark("{"):
			n = node(syntax.XApply, n.At, n, p.block())
		default:
			return n
		}
	}
}

// apply reads the arguments of a function, behind the parenthesis.
func (p *parser) apply(function syntax.Node) syntax.Node {
	n := node(syntax.XApply, function.At, function)
	if p.skipKey("using") {
		n.Num = 1
	}
	n.Kids = append(n.Kids, many(p, p.arg, ")")...)
	return n
}

// arg reads an argument, perhaps with a name.
func (p *parser) arg() syntax.Node {
	if p.peek().Kind != tokens.Name || !isMark(p.behind(), "=") {
		return p.expr()
	}
	name := p.name()
	p.needMark("=")
	return named(syntax.XNamed, name.Text, name.At, p.expr())
}
