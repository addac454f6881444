package desugar

import "newel/syntax"

// loop is a for expression that is replaced: the names of the functions that
// the last generator and the ones ahead of it call, and the body.
type loop struct {
	*desugaring
	last, ahead string
	body        syntax.Node
}

func (d *desugaring) forExpr(n syntax.Node) syntax.Node {
	l := loop{d, "foreach", "foreach", n.Kids[len(n.Kids)-1]}
	if n.Num == 1 {
		l.last, l.ahead = "map", "flatMap"
	}
	return l.over(n.Kids[:len(n.Kids)-1])
}

// over returns the calls that enumerators stand for, the first of which is a
// generator. The chapter tells three beginnings of the rest, with bindings and
// without any; no bindings are none to be matched.
func (l loop) over(enumerators []syntax.Node) syntax.Node {
	pattern, values := enumerators[0].Kids[0], enumerators[0].Kids[1]
	rest := enumerators[1:]
	for {
		lets := bindings(rest)
		behind := rest[len(lets):]
		if len(behind) == 0 {
			return l.call(values, l.last, l.lambda(pattern, func() syntax.Node {
				return l.let(lets, l.body)
			}))
		}
		if behind[0].Kind == syntax.SGenerator {
			return l.call(values, l.ahead, l.lambda(pattern, func() syntax.Node {
				return l.let(lets, l.over(behind))
			}))
		}
		values = l.call(values, "withFilter", l.lambda(pattern, func() syntax.Node {
			return l.let(lets, behind[0].Kids[0])
		}))
		rest = joined(lets, behind[1:])
	}
}

// bindings returns the bindings with which enumerators begin.
func bindings(enumerators []syntax.Node) []syntax.Node {
	for i, e := range enumerators {
		if e.Kind != syntax.SBinding {
			return enumerators[:i]
		}
	}
	return enumerators
}

// let returns a body in which the names of bindings are known.
func (l loop) let(lets []syntax.Node, body syntax.Node) syntax.Node {
	for i := len(lets) - 1; i >= 0; i-- {
		body = l.match(lets[i].Kids[1], lets[i].Kids[0], body)
	}
	return body
}

// lambda returns the function of what a pattern matches. Its body is made
// behind the parameter: fresh names are taken in the order of the nodes.
func (l loop) lambda(pattern syntax.Node, body func() syntax.Node) syntax.Node {
	var param syntax.Node
	value := body
	switch {
	case pattern.Kind == syntax.PBind && pattern.Kids[0].Kind == syntax.PWild:
		param = l.node(syntax.SLambdaParam, pattern.Text, l.none())
	case pattern.Kind == syntax.PTyped && pattern.Text != "_":
		param = l.node(syntax.SLambdaParam, pattern.Text, pattern.Kids[0])
	default:
		name := l.fresh()
		param = l.node(syntax.SLambdaParam, name, l.none())
		value = func() syntax.Node { return l.match(l.name(name), pattern, body()) }
	}
	return l.node(syntax.XLambda, "", param, value())
}
