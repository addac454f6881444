package parser

import (
	"newel/syntax"
	"newel/tokens"
)

// catches reads the cases of try: several in a block, or just one.
func (p *parser) catches() syntax.Node {
	n := p.left(syntax.SCases)
	if p.opening() {
		n.Kids = p.cases()
	} else {
		n.Kids = []syntax.Node{p.oneCase()}
	}
	return n
}

// cases reads a block of cases. Nothing need stand between them.
func (p *parser) cases() []syntax.Node {
	end := p.pair[p.at]
	p.take()
	p.lines()
	list := []syntax.Node{p.oneCase()}
	p.lines()
	for p.at != end {
		list = append(list, p.oneCase())
		p.lines()
	}
	p.take()
	return list
}

// oneCase reads a case of match or try.
func (p *parser) oneCase() syntax.Node {
	at := p.needKey("case")
	pattern := p.pattern()
	guard := p.none()
	if p.skipKey("if") {
		guard = p.guardExpr()
	}
	p.needMark("=>")
	return node(syntax.SCase, at, pattern, guard, p.caseBody())
}

// caseBody reads what stands behind the => of a case: a block that is all of
// it, or statements.
func (p *parser) caseBody() syntax.Node {
	if p.opening() {
		if t := p.list[p.pair[p.at]+1]; breaks(t) || endsCase(t) {
			return nested(p, p.block)
		}
	}
	at := p.peek().At
	var kids []syntax.Node
	for !endsCase(p.behindLines()) {
		kids = append(kids, p.statement())
		if !breaks(p.peek()) || endsCase(p.behindLines()) {
			break
		}
		p.lines()
	}
	if len(kids) == 1 && !isDefinition(kids[0].Kind) {
		return kids[0]
	}
	return node(syntax.XBlock, at, kids...)
}

// endsCase reports whether a token stands behind a case, and begins no
// statement of it.
func endsCase(t tokens.Token) bool {
	if closes(t) || t.Kind == tokens.Stop || isMark(t, ",") {
		return true
	}
	if t.Kind != tokens.Key {
		return false
	}
	switch t.Text {
	case "case", "catch", "do", "else", "finally", "then", "yield":
		return true
	}
	return false
}

// isDefinition reports whether nodes of a kind are definitions.
func isDefinition(kind int) bool { return syntax.SImport <= kind && kind <= syntax.SEnumCase }

// pattern reads any pattern.
func (p *parser) pattern() syntax.Node { return nested(p, p.anyPattern) }

func (p *parser) anyPattern() syntax.Node {
	list := separated(p.onePattern, p.bar)
	if len(list) == 1 {
		return list[0]
	}
	return node(syntax.PAlt, list[0].At, list...)
}

// onePattern reads a pattern without alternatives, outside of brackets.
func (p *parser) onePattern() syntax.Node {
	t := p.peek()
	switch {
	case t.Kind == tokens.Name:
		return p.namePattern()
	case p.skipMark("_"):
		if p.mark(":") {
			return named(syntax.PTyped, t.Text, t.At, p.patternType())
		}
		return node(syntax.PWild, t.At)
	case isLiteral(t):
		return node(syntax.PLiteral, t.At, p.literal())
	case p.skip(p.op("-")):
		if k := p.peek().Kind; k != tokens.Int && k != tokens.Long {
			p.fail()
		}
		return node(syntax.PLiteral, t.At, named(syntax.XPrefix, t.Text, t.At, p.literal()))
	}
	p.needMark("(")
	if p.skipMark(")") {
		return node(syntax.PLiteral, t.At, node(syntax.XUnit, t.At))
	}
	n := p.pattern()
	p.needMark(")")
	n.At = t.At // the parentheses belong to its text
	return n
}

// namePattern reads a pattern that begins with a name.
func (p *parser) namePattern() syntax.Node {
	name := p.name()
	switch {
	case p.skipMark("@"):
		return named(syntax.PBind, name.Text, name.At, nested(p, p.onePattern))
	case p.mark(":"):
		return named(syntax.PTyped, name.Text, name.At, p.patternType())
	}
	path, single := name.Text, true
	for p.skipMark(".") {
		path += "." + p.name().Text
		single = false
	}
	switch {
	case p.skipMark("("):
		return named(syntax.PApply, path, name.At, many(p, p.pattern, ")")...)
	case single && binds(path):
		return named(syntax.PBind, path, name.At, p.left(syntax.PWild))
	}
	return named(syntax.PStable, path, name.At)
}

// binds reports whether a single name in a pattern is a variable.
func binds(name string) bool {
	return name[0] == '_' || 'a' <= name[0] && name[0] <= 'z'
}

// patternType reads : and a type, if they are there. Behind the type => may
// stand, which is no part of it.
func (p *parser) patternType() syntax.Node {
	if p.skipMark(":") {
		return p.orType()
	}
	return p.none()
}
