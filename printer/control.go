package printer

import "newel/syntax"

// conditional writes if.
func (p *printer) conditional(n syntax.Node) {
	then, otherwise := n.Kids[1], n.Kids[2]
	p.put("if ")
	p.enclosed(n.Kids[0])
	if otherwise.Kind == syntax.SNone {
		p.controlled("then", then)
		return
	}
	if takes(then, "else") {
		p.put(" ")
		p.enclosed(then)
	} else {
		p.controlled("then", then)
	}
	p.key("else")
	p.after("", otherwise)
}

// controlled writes an expression behind a condition. An indentation begins
// behind a keyword only.
func (p *printer) controlled(key string, n syntax.Node) {
	if n.Kind == syntax.XBlock && p.indents(n.Kids...) {
		p.put(" ", key)
	}
	p.after("", n)
}

// takes reports whether the text of an expression ends with one that would go
// on with a keyword behind it: else, catch or finally.
func takes(n syntax.Node, key string) bool {
	for {
		last := len(n.Kids) - 1
		switch n.Kind {
		case syntax.XIf:
			none := n.Kids[last].Kind == syntax.SNone
			if none && key == "else" {
				return true
			}
			if none {
				last = 1
			}
		case syntax.XTry:
			switch none := n.Kids[last].Kind == syntax.SNone; {
			case none && len(n.Kids[1].Kids) > 0: // nothing takes a keyword out of its cases
				return key == "finally"
			case none && key != "else":
				return true
			case none:
				last = 0
			}
		case syntax.XLambda, syntax.XWhile, syntax.XFor, syntax.XThrow, syntax.XReturn, syntax.XAssign:
		default:
			return false
		}
		n = n.Kids[last]
	}
}

// loop writes while.
func (p *printer) loop(n syntax.Node) {
	p.put("while ")
	p.enclosed(n.Kids[0])
	p.controlled("do", n.Kids[1])
}

// forExpr writes for.
func (p *printer) forExpr(n syntax.Node) {
	last := len(n.Kids) - 1
	p.put("for ")
	p.braced("{", p.node, n.Kids[:last]...)
	if n.Num == 0 {
		p.after(" do", n.Kids[last])
	} else {
		p.after(" yield", n.Kids[last])
	}
}

func (p *printer) generator(n syntax.Node) {
	p.node(n.Kids[0])
	p.after(" <-", n.Kids[1])
}

func (p *printer) binding(n syntax.Node) {
	p.node(n.Kids[0])
	p.after(" =", n.Kids[1])
}

func (p *printer) guard(n syntax.Node) {
	p.put("if ")
	p.node(n.Kids[0])
}

// match writes a match.
func (p *printer) match(n syntax.Node) {
	p.operand(n.Kids[0], matches)
	p.put(" match")
	p.group(p.node, n.Kids[1:]...)
}

// oneCase writes a case. What stands in front of the => of a function would end
// its guard.
func (p *printer) oneCase(n syntax.Node) {
	p.put("case ")
	p.node(n.Kids[0])
	p.optional(" if ", p.caseGuard, n.Kids[1])
	p.after(" =>", n.Kids[2])
}

func (p *printer) caseGuard(n syntax.Node) { p.operand(n, infixes) }

// try writes try.
func (p *printer) try(n syntax.Node) {
	body, cases, finalizer := n.Kids[0], n.Kids[1].Kids, n.Kids[2]
	next := ""
	switch {
	case len(cases) > 0:
		next = "catch"
	case finalizer.Kind != syntax.SNone:
		next = "finally"
	}
	if next != "" && takes(body, next) {
		p.put("try ")
		p.enclosed(body)
	} else {
		p.after("try", body)
	}
	if len(cases) > 0 {
		p.key("catch")
		p.group(p.node, cases...)
	}
	if finalizer.Kind != syntax.SNone {
		p.key("finally")
		p.after("", finalizer)
	}
}

func (p *printer) throw(n syntax.Node) { p.after("throw", n.Kids[0]) }

// returns writes return.
func (p *printer) returns(n syntax.Node) {
	if kid := n.Kids[0]; kid.Kind != syntax.SNone {
		p.after("return", kid)
		return
	}
	p.put("return")
	p.bare = true
}

// lambda writes a function.
func (p *printer) lambda(n syntax.Node) {
	last := len(n.Kids) - 1
	params := n.Kids[:last]
	if last == 1 && params[0].Kids[0].Kind == syntax.SNone {
		p.lambdaParam(params[0])
	} else {
		p.list("(", ")", p.lambdaParam, params...)
	}
	p.after(" =>", n.Kids[last])
}

// lambdaParam writes a parameter of a function.
func (p *printer) lambdaParam(n syntax.Node) {
	p.wordOrWild(n.Text)
	p.optional(": ", p.paramType, n.Kids[0])
}

func (p *printer) paramType(n syntax.Node) { p.typeAt(n, orLevel) }
