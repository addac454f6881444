package parser

import (
	"newel/api"
	"newel/syntax"
	"newel/tokens"
)

// typeParams reads a list of type parameters, if it is there.
func (p *parser) typeParams() syntax.Node {
	if p.mark("[") {
		return p.someTypeParams()
	}
	return p.left(syntax.SNames)
}

// someTypeParams reads a list of type parameters.
func (p *parser) someTypeParams() syntax.Node {
	at := p.needMark("[")
	return node(syntax.SNames, at, some(p, p.typeParam, "]")...)
}

// typeParam reads a type parameter.
func (p *parser) typeParam() syntax.Node {
	n := p.left(syntax.STParam)
	switch {
	case p.skip(p.op("+")):
		n.Num = api.Covariant
	case p.skip(p.op("-")):
		n.Num = api.Contravariant
	}
	n.Text = p.name().Text
	var arity []syntax.Node
	if p.skipMark("[") {
		arity = some(p, p.place, "]")
	}
	n.Kids = append(n.Kids, p.optionalType(">:"), p.optionalType("<:"))
	n.Kids = append(n.Kids, arity...)
	return n
}

// place reads a parameter of a type parameter, which has no name.
func (p *parser) place() syntax.Node { return node(syntax.SNone, p.needMark("_")) }

// lists reads lists of parameters.
func (p *parser) lists() syntax.Node {
	n := p.left(syntax.SLists)
	for p.mark("(") {
		list := node(syntax.SParams, p.needMark("("))
		if p.skipKey("using") {
			list.Num = 1
		}
		list.Kids = many(p, p.param, ")")
		n.Kids = append(n.Kids, list)
	}
	return n
}

// What an SParam is, as its Num: one of the first two, and one of the others
// added to it.
const (
	byName   = 1
	repeated = 2
	valParam = 4
	varParam = 8
)

// param reads a parameter.
func (p *parser) param() syntax.Node {
	mods := p.mods()
	n := node(syntax.SParam, mods.At, mods)
	switch {
	case p.skipKey("val"):
		n.Num = valParam
	case p.skipKey("var"):
		n.Num = varParam
	}
	n.Text = p.name().Text
	p.needMark(":")
	if p.skipMark("=>") {
		n.Num += byName
		n.Kids = append(n.Kids, p.typ())
	} else {
		n.Kids = append(n.Kids, p.typ())
		if p.skip(p.op("*")) {
			n.Num += repeated
		}
	}
	n.Kids = append(n.Kids, p.value())
	return n
}

// typ reads any type.
func (p *parser) typ() syntax.Node { return nested(p, p.anyType) }

func (p *parser) anyType() syntax.Node {
	switch {
	case p.mark("["):
		return p.typeLambda()
	case p.mark("(") && isMark(p.list[p.pair[p.at]+1], "=>"):
		at := p.needMark("(")
		params := many(p, p.typ, ")")
		p.needMark("=>")
		return node(syntax.TFunction, at, append(params, p.typ())...)
	}
	t := p.orType()
	switch {
	case p.skipMark("=>"):
		return node(syntax.TFunction, t.At, t, p.typ())
	case p.skipKey("match"):
		if !p.opening() {
			p.fail()
		}
		cases := enclosed(p, 1, p.typeCase)
		return node(syntax.TMatch, t.At, append([]syntax.Node{t}, cases...)...)
	}
	return t
}

// typeLambda reads a type function.
func (p *parser) typeLambda() syntax.Node {
	params := p.someTypeParams()
	p.need(p.op("=>>"))
	return node(syntax.TLambda, params.At, params, p.typ())
}

// typeCase reads a case of a match type.
func (p *parser) typeCase() syntax.Node {
	at := p.needKey("case")
	pattern := p.orType()
	p.needMark("=>")
	return node(syntax.TCase, at, pattern, p.typ())
}

// orType reads a type without =>, outside of brackets.
func (p *parser) orType() syntax.Node {
	return joined(syntax.TOr, separated(p.andType, p.bar))
}

func (p *parser) andType() syntax.Node {
	return joined(syntax.TAnd, separated(p.simpleType, p.ampersand))
}

func (p *parser) bar() bool { return p.skip(p.op("|")) }

func (p *parser) ampersand() bool { return p.skip(p.op("&")) }

// joined makes one node of the operands of an operator, from the left.
func joined(kind int, operands []syntax.Node) syntax.Node {
	n := operands[0]
	for _, o := range operands[1:] {
		n = node(kind, n.At, n, o)
	}
	return n
}

// simpleType reads a type without operators, outside of brackets.
func (p *parser) simpleType() syntax.Node { return p.applied(p.point) }

// newType reads a simple type behind new.
func (p *parser) newType() syntax.Node { return p.applied(p.typePoint) }

// point reads a point.
func (p *parser) point() bool { return p.skipMark(".") }

// typePoint reads a point of the type behind new. One with an operator behind
// it is none: it selects from the new object.
func (p *parser) typePoint() bool { return p.behind().Kind != tokens.Op && p.point() }

// applied reads a simple type; point reads a point with which its path goes on.
func (p *parser) applied(point func() bool) syntax.Node {
	var n syntax.Node
	if p.mark("(") {
		at := p.needMark("(")
		n = p.typ()
		p.needMark(")")
		n.At = at // the parentheses belong to its text
	} else {
		n = p.typePath(point)
	}
	for p.skipMark("[") {
		args := some(p, p.typeArg, "]")
		n = node(syntax.TApply, n.At, append([]syntax.Node{n}, args...)...)
	}
	return n
}

// typePath reads a name of a type, what it is selected from, or the type of a
// path itself.
func (p *parser) typePath(point func() bool) syntax.Node {
	if p.key("this") {
		this := node(syntax.XThis, p.take().At)
		p.needMark(".")
		return p.selected(this, point)
	}
	first := p.name()
	if !point() {
		return named(syntax.TName, first.Text, first.At)
	}
	return p.selected(named(syntax.XName, first.Text, first.At), point)
}

// selected reads the rest of a path, behind a point.
func (p *parser) selected(path syntax.Node, point func() bool) syntax.Node {
	for {
		if p.skipKey("type") {
			return node(syntax.TSingle, path.At, path)
		}
		name := p.name().Text
		if !point() {
			return named(syntax.TSelect, name, path.At, path)
		}
		path = named(syntax.XSelect, name, path.At, path)
	}
}

// typeArg reads an argument of a type, which may be a wildcard.
func (p *parser) typeArg() syntax.Node {
	if !p.mark("_") {
		return p.typ()
	}
	at := p.needMark("_")
	lower := p.optionalType(">:")
	return node(syntax.TWild, at, lower, p.optionalType("<:"))
}

// opening reports whether a block may begin at the next token.
func (p *parser) opening() bool {
	return p.mark("{") || p.peek().Kind == tokens.Indent
}
