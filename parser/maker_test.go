package parser

import (
	"newel/api"
	"newel/syntax"
)

// The methods of a source below make texts of the rules, and return the trees.

func (s *source) upper() string { return s.dice.pick("A", "B", "Cd", "X1") }

func (s *source) lower() string { return s.dice.pick("a", "b", "c_1", "_d", "xs") }

// leaf reports whether nothing nested further is to be made.
func (s *source) leaf() bool { return s.deep <= 0 || s.dice.roll(4) == 0 }

// inner makes something that is nested one deeper.
func (s *source) inner(make func() syntax.Node) syntax.Node {
	s.deep--
	n := make()
	s.deep++
	return n
}

// parentheses makes something in parentheses, which belong to its text.
func (s *source) parentheses(make func() syntax.Node) syntax.Node {
	at := s.word("(")
	n := s.inner(make)
	n.At = at
	s.word(")")
	return n
}

func (s *source) none() syntax.Node { return node(syntax.SNone, s.next()) }

// list makes items with commas between them.
func (s *source) list(least, most int, item func() syntax.Node) []syntax.Node {
	var kids []syntax.Node
	for i := range least + s.dice.roll(most-least+1) {
		if i > 0 {
			s.word(",")
		}
		kids = append(kids, s.inner(item))
	}
	return kids
}

// perhaps makes something behind a token, or nothing.
func (s *source) perhaps(token string, make func() syntax.Node) syntax.Node {
	if s.dice.roll(2) == 0 {
		return s.none()
	}
	s.word(token)
	return s.inner(make)
}

func (s *source) unit() syntax.Node {
	n := node(syntax.SUnit, s.next())
	s.separated(s.dice.roll(5), func() { n.Kids = append(n.Kids, s.definition()) })
	return n
}

// separated makes statements.
func (s *source) separated(count int, make func()) {
	for i := range count {
		if i > 0 {
			s.put(item{kind: sep})
		}
		make()
	}
}

func (s *source) mods() syntax.Node {
	n := node(syntax.SMods, s.next())
	for i := s.dice.roll(6); i > 3; i-- {
		flags := []int64{api.Abstract, api.Final, api.Sealed, api.Private, api.Override, api.Volatile, api.Inline}
		keys := []string{"abstract", "final", "sealed", "private", "override", "volatile", "inline"}
		if k := s.dice.roll(len(keys)); n.Num&flags[k] == 0 {
			n.Num |= flags[k]
			s.word(keys[k])
		}
	}
	return n
}

func (s *source) definition() syntax.Node {
	at := s.next()
	switch s.dice.roll(9) {
	case 0:
		s.word("import", "a", ".", "B")
		if s.dice.roll(2) == 0 {
			s.word(".", "*")
			return named(syntax.SImport, "a.B.*", at)
		}
		return named(syntax.SImport, "a.B", at)
	case 1:
		return s.extension()
	case 2, 3:
		return s.class()
	case 4:
		mods := s.mods()
		s.word("type")
		name := s.upper()
		s.word(name)
		names := s.typeParams()
		lower, upper := s.none(), s.none()
		if s.dice.roll(2) == 0 {
			alias := s.perhaps("=", s.typ)
			return named(syntax.SType, name, at, mods, names, lower, upper, alias)
		}
		lower = s.perhaps(">:", s.typ)
		upper = s.perhaps("<:", s.typ)
		return named(syntax.SType, name, at, mods, names, lower, upper, s.none())
	case 5:
		return s.given()
	case 6, 7:
		return s.def()
	}
	mods := s.mods()
	what := s.dice.roll(3)
	s.word([][]string{{"val"}, {"var"}, {"lazy", "val"}}[what]...)
	name := s.lower()
	s.word(name)
	t := s.perhaps(":", s.typ)
	n := named(syntax.SVal, name, at, mods, t, s.perhaps("=", s.expr))
	n.Num = int64(what)
	return n
}

func (s *source) def() syntax.Node {
	at := s.next()
	mods := s.mods()
	s.word("def")
	name := s.dice.pick("f", "+", "::", "G")
	s.word(name)
	names, lists := s.typeParams(), s.lists()
	t := s.perhaps(":", s.typ)
	return named(syntax.SDef, name, at, mods, names, lists, t, s.perhaps("=", s.expr))
}

func (s *source) given() syntax.Node {
	at := s.next()
	mods := s.mods()
	s.word("given")
	name := ""
	names, lists := node(syntax.SNames, s.next()), node(syntax.SLists, s.next())
	if s.dice.roll(2) == 0 {
		name = s.dice.pick("g", "H")
		s.word(name)
		names, lists = s.typeParams(), s.lists()
		s.word(":")
	}
	t := s.inner(s.typ)
	s.word("=")
	return named(syntax.SGiven, name, at, mods, names, lists, t, s.inner(s.expr))
}

func (s *source) extension() syntax.Node {
	at := s.word("extension")
	names := s.typeParams()
	s.word("(")
	n := node(syntax.SExtension, at, names, s.param())
	s.word(")")
	if s.dice.roll(2) == 0 {
		n.Kids = append(n.Kids, s.def())
	} else {
		s.block(bodied, func() {
			s.separated(1+s.dice.roll(3), func() { n.Kids = append(n.Kids, s.inner(s.def)) })
		})
	}
	return n
}

func (s *source) class() syntax.Node {
	at := s.next()
	mods := s.mods()
	what := s.dice.roll(6)
	s.word([][]string{{"class"}, {"trait"}, {"object"}, {"case", "class"}, {"case", "object"}, {"enum"}}[what]...)
	name := s.upper()
	s.word(name)
	names, lists := node(syntax.SNames, s.next()), node(syntax.SLists, s.next())
	if what != 2 && what != 4 {
		names, lists = s.typeParams(), s.lists()
	}
	n := named(syntax.SClass, name, at, mods, names, lists, s.parents())
	n.Num = int64(what)
	if what == 5 || s.dice.roll(2) == 0 {
		n.Kids = append(n.Kids, s.body(what == 5))
	} else {
		n.Kids = append(n.Kids, s.none())
	}
	return n
}

func (s *source) body(enum bool) syntax.Node {
	n := node(syntax.SBody, 0)
	n.At = s.block(bodied, func() {
		s.deep--
		s.separated(s.dice.roll(4), func() {
			if enum && s.dice.roll(2) == 0 {
				n.Kids = append(n.Kids, s.enumCases()...)
			} else {
				n.Kids = append(n.Kids, s.statement())
			}
		})
		s.deep++
	})
	return n
}

func (s *source) enumCases() []syntax.Node {
	at := s.word("case")
	name := s.upper()
	if s.dice.roll(2) == 0 {
		s.word(name)
		return []syntax.Node{named(syntax.SEnumCase, name, at, s.typeParams(), s.lists(), s.parents())}
	}
	var kids []syntax.Node
	for i := range 2 + s.dice.roll(2) {
		if i > 0 {
			s.word(",")
		}
		at, name := s.next(), s.upper()
		s.word(name)
		left := s.next()
		kids = append(kids, named(syntax.SEnumCase, name, at, node(syntax.SNames, left), node(syntax.SLists, left), node(syntax.SParents, left)))
	}
	return kids
}

func (s *source) parents() syntax.Node {
	n := node(syntax.SParents, s.next())
	if s.dice.roll(2) == 0 {
		return n
	}
	s.word("extends")
	n.Kids = append(n.Kids, s.parent())
	for s.dice.roll(3) == 0 {
		s.word(s.dice.pick("with", ","))
		n.Kids = append(n.Kids, s.parent())
	}
	return n
}

func (s *source) parent() syntax.Node {
	t := s.inner(s.simpleType)
	n := node(syntax.SParent, t.At, t)
	if s.dice.roll(2) == 0 {
		n.Num = 1
		s.word("(")
		n.Kids = append(n.Kids, s.list(0, 2, s.expr)...)
		s.word(")")
	}
	return n
}

func (s *source) typeParams() syntax.Node {
	if s.dice.roll(2) == 0 {
		return node(syntax.SNames, s.next())
	}
	return s.someTypeParams()
}

func (s *source) someTypeParams() syntax.Node {
	n := node(syntax.SNames, s.word("["))
	n.Kids = s.list(1, 2, s.typeParam)
	s.word("]")
	return n
}

func (s *source) typeParam() syntax.Node {
	n := node(syntax.STParam, s.next())
	switch s.dice.roll(3) {
	case 0:
		n.Num = api.Covariant
		s.word("+")
	case 1:
		n.Num = api.Contravariant
		s.word("-")
	}
	n.Text = s.upper()
	s.word(n.Text)
	var places []syntax.Node
	if s.dice.roll(3) == 0 {
		s.word("[")
		places = s.list(1, 3, func() syntax.Node { return node(syntax.SNone, s.word("_")) })
		s.word("]")
	}
	n.Kids = append(n.Kids, s.perhaps(">:", s.typ))
	n.Kids = append(n.Kids, s.perhaps("<:", s.typ))
	n.Kids = append(n.Kids, places...)
	return n
}

func (s *source) lists() syntax.Node {
	n := node(syntax.SLists, s.next())
	for i := s.dice.roll(6); i > 3; i-- {
		l := node(syntax.SParams, s.word("("))
		if s.dice.roll(3) == 0 {
			l.Num = 1
			s.word("using")
		}
		l.Kids = s.list(0, 2, s.param)
		s.word(")")
		n.Kids = append(n.Kids, l)
	}
	return n
}

func (s *source) param() syntax.Node {
	n := node(syntax.SParam, s.next(), s.mods())
	switch s.dice.roll(3) {
	case 0:
		n.Num = 4
		s.word("val")
	case 1:
		n.Num = 8
		s.word("var")
	}
	n.Text = s.lower()
	s.word(n.Text, ":")
	switch s.dice.roll(3) {
	case 0:
		n.Num++
		s.word("=>")
		n.Kids = append(n.Kids, s.inner(s.typ))
	case 1:
		n.Num += 2
		n.Kids = append(n.Kids, s.inner(s.typ))
		s.word("*")
	default:
		n.Kids = append(n.Kids, s.inner(s.typ))
	}
	n.Kids = append(n.Kids, s.perhaps("=", s.expr))
	return n
}

func (s *source) typ() syntax.Node {
	at := s.next()
	if s.leaf() {
		return s.simpleType()
	}
	switch s.dice.roll(6) {
	case 0:
		names := s.someTypeParams()
		s.word("=>>")
		return node(syntax.TLambda, at, names, s.inner(s.typ))
	case 1:
		s.word("(")
		n := node(syntax.TFunction, at, s.list(0, 3, s.typ)...)
		s.word(")", "=>")
		n.Kids = append(n.Kids, s.inner(s.typ))
		return n
	case 2:
		t := s.inner(s.orType)
		if s.items[at].text == "(" && s.closesAt(at, s.next()-1) {
			t.At = at + 1 // the parentheses are those of the function
			s.word("=>")
			return node(syntax.TFunction, at, t, s.inner(s.typ))
		}
		s.word("=>")
		return node(syntax.TFunction, t.At, t, s.inner(s.typ))
	case 3:
		t := s.inner(s.orType)
		s.word("match")
		n := node(syntax.TMatch, t.At, t)
		s.block(opened, func() {
			s.separated(1+s.dice.roll(2), func() {
				at := s.word("case")
				p := s.inner(s.orType)
				s.word("=>")
				n.Kids = append(n.Kids, node(syntax.TCase, at, p, s.inner(s.typ)))
			})
		})
		return n
	}
	return s.orType()
}

// closesAt reports whether the parenthesis at an item is closed at another one.
func (s *source) closesAt(from, to int) bool {
	level := 0
	for i := from; i <= to; i++ {
		switch s.items[i].text {
		case "(":
			level++
		case ")":
			level--
		}
		if level == 0 {
			return i == to
		}
	}
	return false
}

func (s *source) orType() syntax.Node {
	n := s.andType()
	for !s.leaf() && s.dice.roll(2) == 0 {
		s.word("|")
		n = node(syntax.TOr, n.At, n, s.inner(s.andType))
	}
	return n
}

func (s *source) andType() syntax.Node {
	n := s.simpleType()
	for !s.leaf() && s.dice.roll(2) == 0 {
		s.word("&")
		n = node(syntax.TAnd, n.At, n, s.inner(s.simpleType))
	}
	return n
}

func (s *source) simpleType() syntax.Node {
	at := s.next()
	var n syntax.Node
	switch k := s.dice.roll(6); {
	case k == 0 && !s.leaf():
		n = s.parentheses(s.typ)
	case k < 3:
		n = named(syntax.TName, s.upper(), at)
		s.word(n.Text)
	default:
		n = node(syntax.XThis, at)
		if k < 5 {
			n = named(syntax.XName, s.lower(), at)
			s.word(n.Text, ".")
		} else {
			s.word("this", ".")
		}
		for s.dice.roll(3) == 0 {
			n = named(syntax.XSelect, s.lower(), at, n)
			s.word(n.Text, ".")
		}
		if s.dice.roll(2) == 0 {
			n = node(syntax.TSingle, at, n)
			s.word("type")
		} else {
			n = named(syntax.TSelect, s.upper(), at, n)
			s.word(n.Text)
		}
	}
	for !s.leaf() && s.dice.roll(3) == 0 {
		s.word("[")
		n = node(syntax.TApply, n.At, append([]syntax.Node{n}, s.list(1, 2, s.typeArg)...)...)
		s.word("]")
	}
	return n
}

func (s *source) typeArg() syntax.Node {
	if s.dice.roll(3) > 0 {
		return s.typ()
	}
	n := node(syntax.TWild, s.word("_"))
	n.Kids = append(n.Kids, s.perhaps(">:", s.typ))
	n.Kids = append(n.Kids, s.perhaps("<:", s.typ))
	return n
}

func (s *source) pattern() syntax.Node {
	if s.leaf() || s.dice.roll(3) > 0 {
		return s.onePattern(true)
	}
	kids := []syntax.Node{s.inner(s.alternative)}
	for range 1 + s.dice.roll(2) {
		s.word("|")
		kids = append(kids, s.inner(s.alternative))
	}
	return node(syntax.PAlt, kids[0].At, kids...)
}

func (s *source) alternative() syntax.Node { return s.onePattern(false) }

// onePattern makes a pattern, without a type or alternatives as part of an
// alternative.
func (s *source) onePattern(free bool) syntax.Node {
	at := s.next()
	switch k := s.dice.roll(10); {
	case k == 0:
		return node(syntax.PWild, s.word("_"))
	case k == 1:
		return node(syntax.PLiteral, at, s.literal())
	case k == 2:
		s.word("-")
		return node(syntax.PLiteral, at, named(syntax.XPrefix, "-", at, s.number()))
	case k == 3:
		s.word("(", ")")
		return node(syntax.PLiteral, at, node(syntax.XUnit, at))
	case k == 4 && free && !s.leaf():
		return s.parentheses(s.pattern)
	case k == 5 && free:
		name := s.dice.pick("_", "a", "B")
		s.word(name, ":")
		return named(syntax.PTyped, name, at, s.inner(s.orType))
	case k == 6 && !s.leaf():
		name := s.dice.pick("a", "B")
		s.word(name, "@", "A", "(")
		n := named(syntax.PApply, "A", at+2, s.list(0, 2, s.pattern)...)
		s.word(")")
		return named(syntax.PBind, name, at, n)
	case k == 7 && !s.leaf():
		s.word("a", ".", "b", "(")
		n := named(syntax.PApply, "a.b", at, s.list(0, 2, s.pattern)...)
		s.word(")")
		return n
	case k == 8:
		s.word("a", ".", "b", ".", "C")
		return named(syntax.PStable, "a.b.C", at)
	case k == 9:
		name := s.upper()
		s.word(name)
		return named(syntax.PStable, name, at)
	}
	name := s.lower()
	s.word(name)
	return named(syntax.PBind, name, at, node(syntax.PWild, s.next()))
}

func (s *source) number() syntax.Node {
	if s.dice.roll(2) == 0 {
		n := node(syntax.XInt, s.word("12"))
		n.Num = 12
		return n
	}
	n := node(syntax.XLong, s.word("34L"))
	n.Num = 34
	return n
}

func (s *source) literal() syntax.Node {
	switch s.dice.roll(6) {
	case 0:
		n := node(syntax.XChar, s.word("'a'"))
		n.Num = 'a'
		return n
	case 1:
		return named(syntax.XString, "a\n", s.word(`"a\n"`))
	case 2:
		return node(syntax.XTrue, s.word("true"))
	case 3:
		return node(syntax.XFalse, s.word("false"))
	case 4:
		return node(syntax.XNull, s.word("null"))
	}
	return s.number()
}
