package parser

import (
	"slices"

	"newel/api"
	"newel/syntax"
	"newel/tokens"
)

// unit is the rule of whole texts.
func (p *parser) unit() syntax.Node {
	at := p.peek().At
	p.lines()
	var kids []syntax.Node
	for p.peek().Kind != tokens.Stop {
		kids = append(kids, p.definition())
		if !p.lines() {
			break
		}
	}
	p.stop()
	return node(syntax.SUnit, at, kids...)
}

// alone reads a text that is nothing but what a rule reads.
func (p *parser) alone(rule func() syntax.Node) syntax.Node {
	p.lines()
	n := rule()
	p.lines()
	p.stop()
	return n
}

// stop fails unless everything has been read.
func (p *parser) stop() {
	if p.peek().Kind != tokens.Stop {
		p.fail()
	}
}

// definition reads any definition.
func (p *parser) definition() syntax.Node {
	switch {
	case p.key("import"):
		return p.imports()
	case p.key("extension"):
		return p.extension()
	}
	mods := p.mods()
	if p.peek().Kind == tokens.Key {
		switch p.peek().Text {
		case "case", "class", "trait", "object", "enum":
			return p.class(mods)
		case "def":
			return p.def(mods)
		case "lazy", "val", "var":
			return p.val(mods)
		case "type":
			return p.typeDefinition(mods)
		case "given":
			return p.given(mods)
		}
	}
	p.fail()
	return syntax.Node{}
}

// defines reports whether a token begins a definition.
func defines(t tokens.Token) bool {
	if t.Kind != tokens.Key {
		return false
	}
	switch t.Text {
	case "import", "extension", "case", "class", "trait", "object", "enum", "def", "lazy", "val", "var", "type", "given":
		return true
	}
	return flagOf(t.Text) != 0
}

// imports reads an import.
func (p *parser) imports() syntax.Node {
	at := p.needKey("import")
	path := p.name().Text
	for p.skipMark(".") {
		if p.op("*") {
			p.take()
			path += ".*"
			break
		}
		path += "." + p.name().Text
	}
	return named(syntax.SImport, path, at)
}

// flagOf returns the flag that a modifier sets, 0 for other words.
func flagOf(key string) int64 {
	switch key {
	case "abstract":
		return api.Abstract
	case "final":
		return api.Final
	case "sealed":
		return api.Sealed
	case "private":
		return api.Private
	case "override":
		return api.Override
	case "volatile":
		return api.Volatile
	case "inline":
		return api.Inline
	}
	return 0
}

// mods reads modifiers.
func (p *parser) mods() syntax.Node {
	n := p.left(syntax.SMods)
	for p.peek().Kind == tokens.Key {
		flag := flagOf(p.peek().Text)
		if flag == 0 {
			break
		}
		if n.Num&flag != 0 {
			p.fail()
		}
		p.take()
		n.Num |= flag
	}
	return n
}

// What an SClass is, as its Num.
const (
	plainClass = iota
	trait
	object
	caseClass
	caseObject
	enum
)

// class reads what begins with class, trait, object, enum or case, behind its
// modifiers.
func (p *parser) class(mods syntax.Node) syntax.Node {
	what := p.classKind()
	name := p.name()
	n := named(syntax.SClass, name.Text, mods.At, mods)
	n.Num = what
	if what == object || what == caseObject {
		n.Kids = append(n.Kids, p.left(syntax.SNames), p.left(syntax.SLists))
	} else {
		n.Kids = append(n.Kids, p.typeParams(), p.lists())
	}
	n.Kids = append(n.Kids, p.parents())
	switch {
	case what == enum:
		n.Kids = append(n.Kids, p.body(p.enumMembers))
	case p.mark("{") || p.mark(":"):
		n.Kids = append(n.Kids, p.body(p.members))
	default:
		n.Kids = append(n.Kids, p.none())
	}
	return n
}

// classKind reads the keywords of a class.
func (p *parser) classKind() int64 {
	first := p.take().Text
	switch first {
	case "class":
		return plainClass
	case "trait":
		return trait
	case "object":
		return object
	case "enum":
		return enum
	}
	if p.skipKey("object") {
		return caseObject
	}
	p.needKey("class")
	return caseClass
}

// body reads the body of a class in braces or by indentation; members reads the
// nodes of a statement.
func (p *parser) body(members func() []syntax.Node) syntax.Node {
	at := p.peek().At
	p.bodyOpens()
	return node(syntax.SBody, at, slices.Concat(enclosed(p, 0, members)...)...)
}

// bodyOpens goes to the brace or the Indent with which a body begins.
func (p *parser) bodyOpens() {
	if p.mark("{") {
		return
	}
	p.needMark(":")
	if p.peek().Kind != tokens.Indent {
		p.fail()
	}
}

// members reads the one node of a statement.
func (p *parser) members() []syntax.Node { return []syntax.Node{p.statement()} }

// enumMembers reads the nodes of a statement of an enum.
func (p *parser) enumMembers() []syntax.Node {
	next := p.behind()
	if !p.key("case") || isKey(next, "class") || isKey(next, "object") {
		return p.members()
	}
	return nested(p, p.enumCases)
}

// enumCases reads one case, with all that it may have, or several names.
func (p *parser) enumCases() []syntax.Node {
	at := p.needKey("case")
	name := p.name()
	if !p.mark(",") {
		return []syntax.Node{named(syntax.SEnumCase, name.Text, at, p.typeParams(), p.lists(), p.parents())}
	}
	cases := []syntax.Node{p.enumName(name)}
	for p.comma() {
		cases = append(cases, p.enumName(p.name()))
	}
	return cases
}

// enumName makes a case that is nothing but its name.
func (p *parser) enumName(name tokens.Token) syntax.Node {
	return named(syntax.SEnumCase, name.Text, name.At,
		p.left(syntax.SNames), p.left(syntax.SLists), p.left(syntax.SParents))
}

// parents reads the parents of a class, if it has any.
func (p *parser) parents() syntax.Node {
	n := p.left(syntax.SParents)
	if p.skipKey("extends") {
		n.Kids = separated(p.parent, p.withOrComma)
	}
	return n
}

func (p *parser) with() bool { return p.skipKey("with") }

func (p *parser) withOrComma() bool { return p.with() || p.comma() }

// parent reads a parent of a class, perhaps with arguments.
func (p *parser) parent() syntax.Node { return p.constructed(p.simpleType()) }

// newParent reads a parent behind new.
func (p *parser) newParent() syntax.Node { return p.constructed(p.newType()) }

// constructed reads the arguments of a parent, if it has any.
func (p *parser) constructed(t syntax.Node) syntax.Node {
	n := node(syntax.SParent, t.At, t)
	if p.skipMark("(") {
		n.Num = 1
		n.Kids = append(n.Kids, many(p, p.expr, ")")...)
	}
	return n
}

// def reads a method behind its modifiers.
func (p *parser) def(mods syntax.Node) syntax.Node {
	p.needKey("def")
	name := p.id()
	names := p.typeParams()
	lists := p.lists()
	result := p.optionalType(":")
	return named(syntax.SDef, name.Text, mods.At, mods, names, lists, result, p.value())
}

// optionalType reads a mark and a type, if the mark is there.
func (p *parser) optionalType(mark string) syntax.Node {
	if p.skipMark(mark) {
		return p.typ()
	}
	return p.none()
}

// value reads = and an expression, if they are there.
func (p *parser) value() syntax.Node {
	if p.skipMark("=") {
		return p.expr()
	}
	return p.none()
}

// What an SVal is, as its Num.
const (
	val = iota
	variable
	lazyVal
)

// val reads a value or a variable behind its modifiers.
func (p *parser) val(mods syntax.Node) syntax.Node {
	var what int64 = val
	switch {
	case p.skipKey("lazy"):
		what = lazyVal
		p.needKey("val")
	case p.skipKey("var"):
		what = variable
	default:
		p.needKey("val")
	}
	name := p.name()
	t := p.optionalType(":")
	n := named(syntax.SVal, name.Text, mods.At, mods, t, p.value())
	n.Num = what
	return n
}

// typeDefinition reads a type member behind its modifiers: an alias, or one
// with bounds.
func (p *parser) typeDefinition(mods syntax.Node) syntax.Node {
	p.needKey("type")
	name := p.name()
	names := p.typeParams()
	lower := p.optionalType(">:")
	upper := p.optionalType("<:")
	alias := p.none()
	if lower.Kind == syntax.SNone && upper.Kind == syntax.SNone {
		alias = p.optionalType("=")
	}
	return named(syntax.SType, name.Text, mods.At, mods, names, lower, upper, alias)
}

// given reads a given value behind its modifiers.
func (p *parser) given(mods syntax.Node) syntax.Node {
	p.needKey("given")
	n := named(syntax.SGiven, "", mods.At, mods)
	if p.givenNamed() {
		n.Text = p.name().Text
		n.Kids = append(n.Kids, p.typeParams(), p.lists())
		p.needMark(":")
	} else {
		n.Kids = append(n.Kids, p.left(syntax.SNames), p.left(syntax.SLists))
	}
	t := p.typ()
	p.needMark("=")
	n.Kids = append(n.Kids, t, p.expr())
	return n
}

// givenNamed reports whether the next token is the name of a given value, and
// not the beginning of its type.
func (p *parser) givenNamed() bool {
	if p.peek().Kind != tokens.Name {
		return false
	}
	i := p.at + 1
	if isMark(p.list[i], "[") {
		i = p.pair[i] + 1
	}
	return isMark(p.list[i], ":") || isMark(p.list[i], "(")
}

// extension reads methods that extend a type.
func (p *parser) extension() syntax.Node {
	at := p.needKey("extension")
	names := p.typeParams()
	p.needMark("(")
	param := p.param()
	p.needMark(")")
	n := node(syntax.SExtension, at, names, param)
	if p.mark("{") || p.mark(":") {
		p.bodyOpens()
		n.Kids = append(n.Kids, enclosed(p, 1, p.modsDef)...)
	} else {
		n.Kids = append(n.Kids, p.modsDef())
	}
	return n
}

// modsDef reads a method with its modifiers.
func (p *parser) modsDef() syntax.Node { return p.def(p.mods()) }
