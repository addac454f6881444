package parser

import "newel/syntax"

func (s *source) statement() syntax.Node {
	if s.dice.roll(3) == 0 {
		return s.inner(s.definition)
	}
	return s.inner(s.expr)
}

// closed makes an expression behind which anything may stand.
func (s *source) closed() syntax.Node { return s.infix(2) }

// noParen makes an expression that begins without a parenthesis.
func (s *source) noParen() syntax.Node {
	at := s.next()
	n := s.infix(2)
	if s.items[at].text != "(" {
		return n
	}
	s.items = s.items[:at]
	return named(syntax.XName, "a", s.word("a"))
}

func (s *source) expr() syntax.Node {
	if s.leaf() {
		return s.operation()
	}
	at := s.next()
	switch s.dice.roll(12) {
	case 0:
		return s.conditional()
	case 1:
		s.word("while")
		c := s.condition("do")
		return node(syntax.XWhile, at, c, s.inner(s.expr))
	case 2:
		return s.forExpr()
	case 3, 4:
		return s.tryExpr()
	case 5:
		s.word("throw")
		return node(syntax.XThrow, at, s.inner(s.expr))
	case 6:
		s.word("return")
		if s.dice.roll(2) == 0 {
			return node(syntax.XReturn, at, s.none())
		}
		return node(syntax.XReturn, at, s.inner(s.expr))
	case 7, 8:
		return s.lambda()
	case 9:
		n := s.operation()
		op := s.dice.pick("=", "+=", ":=", "-=")
		s.word(op)
		return named(syntax.XAssign, op, n.At, n, s.inner(s.expr))
	}
	return s.operation()
}

// condition makes a condition with its keyword.
func (s *source) condition(key string) syntax.Node {
	if s.dice.roll(2) == 0 {
		n := s.inner(s.noParen)
		s.word(key)
		return n
	}
	s.word("(")
	n := s.inner(s.expr)
	s.word(")")
	if s.dice.roll(2) == 0 {
		s.word(key)
	}
	return n
}

func (s *source) conditional() syntax.Node {
	at := s.word("if")
	c := s.condition("then")
	if s.dice.roll(2) == 0 {
		n := node(syntax.XIf, at, c, s.inner(s.closed))
		s.put(item{kind: gap})
		s.word("else")
		n.Kids = append(n.Kids, s.inner(s.expr))
		return n
	}
	return node(syntax.XIf, at, c, s.inner(s.closed), s.none())
}

func (s *source) forExpr() syntax.Node {
	n := node(syntax.XFor, s.word("for"))
	switch s.dice.roll(3) {
	case 0:
		s.word("(")
		n.Kids = s.enumerators()
		s.word(")")
	case 1:
		s.put(item{kind: open, text: "{"})
		open := s.next() - 1
		n.Kids = s.enumerators()
		s.items[open].mate = s.put(item{kind: shut, text: "}"})
	default:
		n.Kids = s.enumerators()
		n.Num = int64(s.dice.roll(2))
		s.word([]string{"do", "yield"}[n.Num])
		n.Kids = append(n.Kids, s.inner(s.expr))
		return n
	}
	switch s.dice.roll(3) {
	case 0:
		s.word("do")
	case 1:
		n.Num = 1
		s.word("yield")
	}
	n.Kids = append(n.Kids, s.inner(s.expr))
	return n
}

func (s *source) enumerators() []syntax.Node {
	s.deep--
	var kids []syntax.Node
	s.separated(1+s.dice.roll(3), func() {
		at := s.next()
		if len(kids) > 0 && s.dice.roll(3) == 0 {
			s.word("if")
			kids = append(kids, node(syntax.SGuard, at, s.closed()))
			return
		}
		kind, mark := syntax.SGenerator, "<-"
		if len(kids) > 0 && s.dice.roll(2) == 0 {
			kind, mark = syntax.SBinding, "="
		}
		p := s.pattern()
		s.word(mark)
		kids = append(kids, node(kind, p.At, p, s.closed()))
		if s.dice.roll(3) == 0 {
			at := s.word("if")
			kids = append(kids, node(syntax.SGuard, at, s.closed()))
		}
	})
	s.deep++
	return kids
}

func (s *source) tryExpr() syntax.Node {
	if s.dice.roll(3) == 0 { // one case, in parentheses: behind it statements would be read
		return s.parentheses(s.tryCase)
	}
	n := node(syntax.XTry, s.word("try"), s.inner(s.closed))
	cases := node(syntax.SCases, s.next())
	if s.dice.roll(2) == 0 {
		s.put(item{kind: gap})
		s.word("catch")
		cases.At = s.next()
		cases.Kids = s.cases()
	}
	n.Kids = append(n.Kids, cases)
	if s.dice.roll(2) == 0 {
		n.Kids = append(n.Kids, s.none())
		return n
	}
	s.put(item{kind: gap})
	s.word("finally")
	n.Kids = append(n.Kids, s.inner(s.expr))
	return n
}

// tryCase makes try with one case.
func (s *source) tryCase() syntax.Node {
	n := node(syntax.XTry, s.word("try"), s.inner(s.closed))
	s.word("catch")
	n.Kids = append(n.Kids, node(syntax.SCases, s.next(), s.oneCase()), s.none())
	return n
}

func (s *source) cases() []syntax.Node {
	var kids []syntax.Node
	s.block(opened, func() {
		s.separated(1+s.dice.roll(3), func() { kids = append(kids, s.inner(s.oneCase)) })
	})
	return kids
}

func (s *source) oneCase() syntax.Node {
	at := s.word("case")
	p := s.inner(s.pattern)
	guard := s.perhaps("if", s.closed)
	s.word("=>")
	n := node(syntax.SCase, at, p, guard)
	from := s.next()
	switch s.dice.roll(3) {
	case 0:
		n.Kids = append(n.Kids, s.inner(s.operation))
	case 1:
		n.Kids = append(n.Kids, s.braces())
	default:
		body := node(syntax.XBlock, from)
		s.separated(s.dice.roll(3), func() {
			if len(body.Kids) == 0 {
				s.word("val", "a")
				body.Kids = append(body.Kids, named(syntax.SVal, "a", s.next()-2, node(syntax.SMods, s.next()-2), s.none(), s.none()))
			} else {
				body.Kids = append(body.Kids, s.inner(s.operation))
			}
		})
		n.Kids = append(n.Kids, body)
	}
	return n
}

// braces makes a block.
func (s *source) braces() syntax.Node {
	n := node(syntax.XBlock, 0)
	n.At = s.block(open, func() {
		s.deep--
		s.separated(s.dice.roll(4), func() { n.Kids = append(n.Kids, s.statement()) })
		s.deep++
	})
	return n
}

func (s *source) lambda() syntax.Node {
	n := node(syntax.XLambda, s.next())
	if s.dice.roll(2) == 0 {
		name := s.dice.pick("a", "_", "B")
		at := s.word(name)
		n.Kids = append(n.Kids, named(syntax.SLambdaParam, name, at, s.none()))
	} else {
		s.word("(")
		n.Kids = s.list(0, 3, func() syntax.Node {
			name := s.dice.pick("a", "_", "B")
			at := s.word(name)
			return named(syntax.SLambdaParam, name, at, s.perhaps(":", s.orType))
		})
		s.word(")")
	}
	s.word("=>")
	n.Kids = append(n.Kids, s.inner(s.expr))
	return n
}

func (s *source) operation() syntax.Node {
	n := s.infix(2)
	for !s.leaf() && s.dice.roll(4) == 0 {
		s.word("match")
		n = node(syntax.XMatch, n.At, append([]syntax.Node{n}, s.cases()...)...)
	}
	return n
}

// infix makes operands with operators whose precedence is not less than a
// number.
func (s *source) infix(least int) syntax.Node {
	ops := []string{"||", "^", "&&", "==", "<", "::", "-", "*", "~"} // from the precedence 2 on; :: alone is from the right
	precedence := least + s.dice.roll(12)
	if s.leaf() || precedence > 10 {
		return s.prefix()
	}
	op := ops[precedence-2]
	left, right := precedence, precedence+1
	if op == "::" {
		left, right = right, left
	}
	n := s.inner(func() syntax.Node { return s.infix(left) })
	s.word(op)
	return named(syntax.XInfix, op, n.At, n, s.inner(func() syntax.Node { return s.infix(right) }))
}

func (s *source) prefix() syntax.Node {
	if s.dice.roll(6) > 0 {
		return s.simple()
	}
	op := s.dice.pick("-", "!", "~", "+")
	at := s.word(op)
	return named(syntax.XPrefix, op, at, s.inner(s.prefix))
}

func (s *source) simple() syntax.Node {
	n := s.atom()
	for !s.leaf() && s.dice.roll(2) == 0 {
		switch s.dice.roll(4) {
		case 0:
			name := s.dice.pick("a", "b", "+", "A")
			s.word(".", name)
			n = named(syntax.XSelect, name, n.At, n)
		case 1:
			s.word("[")
			n = node(syntax.XTypes, n.At, append([]syntax.Node{n}, s.list(1, 2, s.typ)...)...)
			s.word("]")
		case 2:
			s.word("(")
			n = node(syntax.XApply, n.At, n)
			if s.dice.roll(4) == 0 {
				n.Num = 1
				s.word("using")
			}
			named := s.dice.roll(3)
			i := 0
			n.Kids = append(n.Kids, s.list(0, 3, func() syntax.Node { i++; return s.arg(i > named) })...)
			s.word(")")
		default:
			n = node(syntax.XApply, n.At, n, s.inner(s.braces))
		}
	}
	return n
}

func (s *source) arg(isNamed bool) syntax.Node {
	if !isNamed {
		at := s.next()
		n := s.expr()
		if at+1 < s.next() && s.items[at+1].text == "=" && n.Kind == syntax.XAssign && n.Kids[0].Kind == syntax.XName && n.Kids[0].At == at {
			s.items = s.items[:at] // it would be a named argument
			return named(syntax.XName, "a", s.word("a"))
		}
		return n
	}
	name := s.lower()
	at := s.word(name, "=")
	return named(syntax.XNamed, name, at, s.inner(s.expr))
}

func (s *source) atom() syntax.Node {
	at := s.next()
	if s.leaf() {
		if s.dice.roll(3) == 0 {
			return s.literal()
		}
		name := s.lower()
		s.word(name)
		return named(syntax.XName, name, at)
	}
	switch s.dice.roll(10) {
	case 0:
		return node(syntax.XThis, s.word("this"))
	case 1:
		s.word("super")
		n := node(syntax.XSuper, at)
		if s.dice.roll(2) == 0 {
			n.Text = "A"
			s.word("[", "A", "]")
		}
		s.word(".", "b")
		return named(syntax.XSelect, "b", at, n)
	case 2:
		s.word("(", ")")
		return node(syntax.XUnit, at)
	case 3:
		s.word("(")
		n := node(syntax.XTyped, at, s.inner(s.expr))
		s.word(":")
		n.Kids = append(n.Kids, s.inner(s.typ))
		s.word(")")
		return n
	case 4:
		return s.braces()
	case 5:
		s.word([]string{"'{", "${"}[s.dice.roll(2)])
		kind := syntax.XQuote
		if s.items[at].text == "${" {
			kind = syntax.XSplice
		}
		block := node(syntax.XBlock, at)
		s.deep--
		s.separated(s.dice.roll(3), func() { block.Kids = append(block.Kids, s.statement()) })
		s.deep++
		s.word("}")
		return node(kind, at, block)
	case 6:
		return s.interpolated()
	case 7:
		return s.parentheses(s.newExpr)
	case 8:
		n := s.inner(s.newExpr)
		op := s.dice.pick("+", "::", "*")
		s.word(".", op)
		return named(syntax.XSelect, op, at, n)
	}
	return s.parentheses(s.expr)
}

func (s *source) newExpr() syntax.Node {
	at := s.word("new")
	parents := node(syntax.SParents, s.next(), s.parent())
	for s.dice.roll(3) == 0 {
		s.word("with")
		parents.Kids = append(parents.Kids, s.parent())
	}
	if s.dice.roll(2) == 0 {
		return node(syntax.XNew, at, parents, s.none())
	}
	return node(syntax.XNew, at, parents, s.body(false))
}

func (s *source) interpolated() syntax.Node {
	at := s.word(`s"`)
	part := func() syntax.Node {
		text := s.dice.pick("", " a", "-", "\n")
		escaped := text
		if text == "\n" {
			escaped = `\n`
		}
		return named(syntax.XString, text, s.put(item{text: escaped, glue: true}))
	}
	n := named(syntax.XInterp, "s", at, part())
	for s.dice.roll(2) == 0 {
		switch s.dice.roll(3) {
		case 0:
			n.Kids = append(n.Kids, named(syntax.XName, "a", s.put(item{pre: "$", text: "a", glue: true})))
		case 1:
			n.Kids = append(n.Kids, node(syntax.XThis, s.put(item{pre: "$", text: "this", glue: true})))
		default:
			s.put(item{text: "${", glue: true})
			n.Kids = append(n.Kids, s.inner(s.expr))
			s.word("}")
		}
		n.Kids = append(n.Kids, part())
	}
	s.put(item{text: `"`, glue: true})
	return n
}
