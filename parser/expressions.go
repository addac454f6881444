package parser

import (
	"newel/syntax"
	"newel/tokens"
)

// statement reads a definition or an expression.
func (p *parser) statement() syntax.Node {
	if defines(p.peek()) {
		return nested(p, p.definition)
	}
	return p.expr()
}

// block reads statements in a bracket or an indentation.
func (p *parser) block() syntax.Node {
	at := p.peek().At
	return node(syntax.XBlock, at, enclosed(p, 0, p.statement)...)
}

// expr reads any expression.
func (p *parser) expr() syntax.Node { return p.bounded(false) }

// guardExpr reads a guard. What stands in front of its => is no parameter.
func (p *parser) guardExpr() syntax.Node { return p.bounded(true) }

// bounded reads an expression that is a guard or is none.
func (p *parser) bounded(guard bool) syntax.Node {
	outer := p.guard
	p.guard = guard
	n := p.tail()
	p.guard = outer
	return n
}

// tail reads an expression with which the one around it ends, and so perhaps a
// guard.
func (p *parser) tail() syntax.Node { return nested(p, p.anyExpr) }

func (p *parser) anyExpr() syntax.Node {
	if !p.guard && p.lambdaAhead() {
		return p.lambda()
	}
	if p.peek().Kind == tokens.Key {
		switch p.peek().Text {
		case "if":
			return p.conditional()
		case "while":
			return p.loop()
		case "for":
			return p.forExpr()
		case "try":
			return p.tryExpr()
		case "throw":
			at := p.take().At
			return node(syntax.XThrow, at, p.tail())
		case "return":
			return p.returns()
		}
	}
	return p.assignment()
}

// lambdaAhead reports whether a function begins at the next token.
func (p *parser) lambdaAhead() bool {
	switch {
	case p.peek().Kind == tokens.Name || p.mark("_"):
		return isMark(p.behind(), "=>")
	case p.mark("("):
		return isMark(p.list[p.pair[p.at]+1], "=>")
	}
	return false
}

// lambda reads a function.
func (p *parser) lambda() syntax.Node {
	at := p.peek().At
	var kids []syntax.Node
	if p.skipMark("(") {
		kids = many(p, p.lambdaParam, ")")
	} else {
		name := p.take()
		kids = append(kids, named(syntax.SLambdaParam, name.Text, name.At, p.none()))
	}
	p.needMark("=>")
	return node(syntax.XLambda, at, append(kids, p.tail())...)
}

// lambdaParam reads a parameter of a function in parentheses.
func (p *parser) lambdaParam() syntax.Node {
	if !p.mark("_") && p.peek().Kind != tokens.Name {
		p.fail()
	}
	name := p.take()
	return named(syntax.SLambdaParam, name.Text, name.At, p.patternType())
}

// conditional reads if.
func (p *parser) conditional() syntax.Node {
	at := p.needKey("if")
	condition := p.condition("then")
	then := p.tail()
	otherwise := p.none()
	if p.continued("else") {
		otherwise = p.tail()
	}
	return node(syntax.XIf, at, condition, then, otherwise)
}

// loop reads while.
func (p *parser) loop() syntax.Node {
	at := p.needKey("while")
	condition := p.condition("do")
	return node(syntax.XWhile, at, condition, p.tail())
}

// condition reads a condition and the keyword behind it, which may be missing
// behind parentheses.
func (p *parser) condition(key string) syntax.Node {
	if !p.skipMark("(") {
		n := p.expr()
		p.needKey(key)
		return n
	}
	n := p.expr()
	p.needMark(")")
	p.skipKey(key)
	return n
}

// forExpr reads for.
func (p *parser) forExpr() syntax.Node {
	n := node(syntax.XFor, p.needKey("for"))
	bracket := p.mark("{") || p.mark("(") && !p.patternAhead()
	if bracket {
		closing := p.list[p.pair[p.at]].Text
		p.take()
		n.Kids = p.enumerators()
		p.needMark(closing)
	} else {
		n.Kids = p.enumerators()
	}
	switch {
	case p.skipKey("yield"):
		n.Num = 1
	case !p.skipKey("do") && !bracket:
		p.fail()
	}
	n.Kids = append(n.Kids, p.tail())
	return n
}

// patternAhead reports whether the next token, a parenthesis, belongs to the
// pattern of a generator.
func (p *parser) patternAhead() bool {
	t := p.list[p.pair[p.at]+1]
	return isMark(t, "<-") || isOp(t, "|")
}

// enumerators reads what stands between for and its body.
func (p *parser) enumerators() []syntax.Node {
	p.lines()
	pattern := p.pattern()
	p.needMark("<-")
	list := []syntax.Node{node(syntax.SGenerator, pattern.At, pattern, p.expr())}
	for p.enumeratorAhead() {
		p.lines()
		list = append(list, p.enumerator())
	}
	p.lines()
	return list
}

// enumeratorAhead reports whether another enumerator has to follow. Just a
// guard may stand in the same line.
func (p *parser) enumeratorAhead() bool {
	t := p.behindLines()
	if !breaks(p.peek()) {
		return isKey(t, "if")
	}
	return !closes(t) && !isKey(t, "yield") && !isKey(t, "do")
}

// enumerator reads a generator, a binding or a guard.
func (p *parser) enumerator() syntax.Node {
	if p.key("if") {
		at := p.take().At
		return node(syntax.SGuard, at, p.expr())
	}
	pattern := p.pattern()
	if p.skipMark("<-") {
		return node(syntax.SGenerator, pattern.At, pattern, p.expr())
	}
	p.needMark("=")
	return node(syntax.SBinding, pattern.At, pattern, p.expr())
}

// tryExpr reads try.
func (p *parser) tryExpr() syntax.Node {
	at := p.needKey("try")
	body := p.tail()
	cases := p.left(syntax.SCases)
	if p.continued("catch") {
		cases = p.catches()
	}
	finalizer := p.none()
	if p.continued("finally") {
		finalizer = p.tail()
	}
	return node(syntax.XTry, at, body, cases, finalizer)
}

// returns reads return, perhaps with a value.
func (p *parser) returns() syntax.Node {
	at := p.needKey("return")
	if p.exprAhead() {
		return node(syntax.XReturn, at, p.tail())
	}
	return node(syntax.XReturn, at, p.none())
}

// exprAhead reports whether an expression begins at the next token.
func (p *parser) exprAhead() bool {
	t := p.peek()
	switch t.Kind {
	case tokens.Name, tokens.Int, tokens.Long, tokens.Char, tokens.String, tokens.Start, tokens.Indent:
		return true
	case tokens.Op:
		return isPrefix(t.Text)
	case tokens.Mark:
		switch t.Text {
		case "(", "{", "'{", "${", "_":
			return true
		}
	case tokens.Key:
		switch t.Text {
		case "if", "while", "for", "try", "throw", "return", "true", "false", "null", "this", "super", "new":
			return true
		}
	}
	return false
}
