package desugar

import (
	"strings"

	"newel/api"
	"newel/syntax"
)

func (d *desugaring) infix(n syntax.Node) syntax.Node {
	a, b := n.Kids[0], n.Kids[1]
	switch {
	case n.Text == "&&":
		return d.node(syntax.XIf, "", a, b, d.node(syntax.XFalse, ""))
	case n.Text == "||":
		return d.node(syntax.XIf, "", a, d.node(syntax.XTrue, ""), b)
	case n.Text == "!=":
		return d.selects(d.call(a, "==", b), "!")
	case strings.HasSuffix(n.Text, ":"): // a is evaluated first, though b is the receiver
		name := d.fresh()
		val := d.node(syntax.SVal, name, d.node(syntax.SMods, ""), d.none(), a)
		return d.node(syntax.XBlock, "", val, d.call(b, n.Text, d.name(name)))
	}
	return d.call(a, n.Text, b)
}

func (d *desugaring) prefix(n syntax.Node) syntax.Node { return d.selects(n.Kids[0], n.Text) }

func (d *desugaring) assign(n syntax.Node) syntax.Node {
	left, value := n.Kids[0], n.Kids[1]
	if op := strings.TrimSuffix(n.Text, "="); op != "" {
		value = d.node(syntax.XInfix, op, left, value)
	}
	switch {
	case left.Kind == syntax.XApply:
		return d.call(left.Kids[0], "update", joined(left.Kids[1:], []syntax.Node{value})...)
	case !isAssigned(left):
		fail(n.At, api.ErrForm)
	}
	return d.node(syntax.XAssign, "=", left, value)
}

// isAssigned reports whether an expression stands on the left of the = of a core
// tree.
func isAssigned(n syntax.Node) bool {
	return n.Kind == syntax.XName || n.Kind == syntax.XSelect
}

func (d *desugaring) interpolated(n syntax.Node) syntax.Node {
	if n.Text != "s" {
		fail(n.At, api.ErrName)
	}
	text := n.Kids[0]
	for _, k := range n.Kids[1:] {
		if k.Kind != syntax.XString || k.Text != "" {
			text = d.call(text, "+", k)
		}
	}
	return text
}

func (d *desugaring) conditional(n syntax.Node) syntax.Node {
	if n.Kids[2].Kind == syntax.SNone {
		return with(n, 2, d.unit())
	}
	return n
}

func (d *desugaring) returns(n syntax.Node) syntax.Node {
	if n.Kids[0].Kind == syntax.SNone {
		return with(n, 0, d.unit())
	}
	return n
}

func (d *desugaring) block(n syntax.Node) syntax.Node {
	for _, k := range n.Kids {
		if !isStatement(k) {
			fail(k.At, api.ErrForm)
		}
	}
	if !hasValue(n) {
		n.Kids = joined(n.Kids, []syntax.Node{d.unit()})
	}
	return n
}

// isStatement reports whether a node may stand in a block.
func isStatement(n syntax.Node) bool {
	switch n.Kind {
	case syntax.SImport:
		return true
	case syntax.SVal:
		return n.Kids[2].Kind != syntax.SNone
	}
	return isExpression(n.Kind)
}

// hasValue reports whether a block ends with an expression.
func hasValue(n syntax.Node) bool {
	last := len(n.Kids) - 1
	return last >= 0 && isExpression(n.Kids[last].Kind)
}

func (d *desugaring) lambdaParam(n syntax.Node) syntax.Node {
	if n.Text == "_" {
		n.Text = d.fresh()
	}
	return n
}
