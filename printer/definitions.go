package printer

import (
	"strings"

	"newel/api"
	"newel/syntax"
)

var modifiers = [...]struct {
	flag int64
	word string
}{
	{api.Override, "override "},
	{api.Private, "private "},
	{api.Final, "final "},
	{api.Sealed, "sealed "},
	{api.Abstract, "abstract "},
	{api.Volatile, "volatile "},
	{api.Inline, "inline "},
}

// The words for the Num of a class and of a value.
var (
	classWords = [...]string{"class ", "trait ", "object ", "case class ", "case object ", "enum "}
	valWords   = [...]string{"val ", "var ", "lazy val "}
)

// Classes as their Num, of those that are special.
const (
	object     = 2
	caseObject = 4
	enum       = 5
)

// What a parameter is, as its Num: one of the first two or neither, and one of
// the last two added to it or neither.
const (
	byName   = 1
	repeated = 2
	passing  = byName | repeated
	valParam = 4
	varParam = 8
)

// unit writes a whole text.
func (p *printer) unit(n syntax.Node) { p.items(p.node, n.Kids...) }

// imports writes an import. A star does not stand alone.
func (p *printer) imports(n syntax.Node) {
	p.put("import ")
	path, star := strings.CutSuffix(n.Text, ".*")
	p.path(path)
	if star {
		p.put(".*")
	}
}

// path writes names with points between them.
func (p *printer) path(path string) {
	for i, name := range strings.Split(path, ".") {
		if i > 0 {
			p.put(".")
		}
		p.word(name)
	}
}

// mods writes modifiers.
func (p *printer) mods(n syntax.Node) {
	for _, m := range modifiers {
		if n.Num&m.flag != 0 {
			p.put(m.word)
		}
	}
}

// class writes a class of any sort.
func (p *printer) class(n syntax.Node) {
	names, lists, body := n.Kids[1], n.Kids[2], n.Kids[4]
	p.mods(n.Kids[0])
	p.put(classWords[n.Num])
	p.word(n.Text)
	p.typeParams(names)
	p.lists(lists)
	p.parents(n.Kids[3])
	switch n.Num {
	case object, caseObject:
		p.wrong = p.wrong || len(names.Kids)+len(lists.Kids) > 0
	case enum:
		p.wrong = p.wrong || body.Kind == syntax.SNone
		p.optional("", p.enumBody, body)
		return
	}
	p.optional("", p.body, body)
}

// body writes the body of a class, but for that of an enum.
func (p *printer) body(n syntax.Node) { p.members(p.node, n.Kids...) }

// enumBody writes the body of an enum.
func (p *printer) enumBody(n syntax.Node) { p.members(p.enumMember, n.Kids...) }

// members writes what stands in a class or an extension.
func (p *printer) members(write func(syntax.Node), members ...syntax.Node) {
	if p.indents(members...) {
		p.put(":")
	}
	p.group(write, members...)
}

// enumMember writes a statement of an enum.
func (p *printer) enumMember(n syntax.Node) {
	if n.Kind != syntax.SEnumCase {
		p.node(n)
		return
	}
	p.put("case ")
	p.word(n.Text)
	p.typeParams(n.Kids[0])
	p.lists(n.Kids[1])
	p.parents(n.Kids[2])
}

// parents writes the parents of a class.
func (p *printer) parents(n syntax.Node) {
	if len(n.Kids) > 0 {
		p.put(" extends ")
		p.joined(" with ", p.parent, n.Kids...)
	}
}

// parent writes a parent, perhaps with arguments.
func (p *printer) parent(n syntax.Node) {
	p.typeAt(n.Kids[0], simpleLevel)
	if n.Num == 1 {
		p.list("(", ")", p.node, n.Kids[1:]...)
	}
}

// def writes a method. Those with a Num are made of extensions, behind the
// parser.
func (p *printer) def(n syntax.Node) {
	p.wrong = p.wrong || n.Num != 0
	p.mods(n.Kids[0])
	p.put("def ")
	p.id(n.Text)
	p.typeParams(n.Kids[1])
	p.lists(n.Kids[2])
	p.result(n.Kids[3])
	p.value(n.Kids[4])
}

// result writes the type of a definition, if it is there.
func (p *printer) result(n syntax.Node) {
	if n.Kind != syntax.SNone {
		p.colon()
		p.typ(n)
	}
}

// value writes the value of a definition, if it is there.
func (p *printer) value(n syntax.Node) {
	if n.Kind != syntax.SNone {
		p.after(" =", n)
	}
}

// val writes a value or a variable.
func (p *printer) val(n syntax.Node) {
	p.mods(n.Kids[0])
	p.put(valWords[n.Num])
	p.word(n.Text)
	p.result(n.Kids[1])
	p.value(n.Kids[2])
}

// typeDefinition writes a type member.
func (p *printer) typeDefinition(n syntax.Node) {
	p.mods(n.Kids[0])
	p.put("type ")
	p.word(n.Text)
	p.typeParams(n.Kids[1])
	p.bounds(n.Kids[2], n.Kids[3])
	p.optional(" = ", p.node, n.Kids[4])
}

// bounds writes the bounds of a type, as far as they are there.
func (p *printer) bounds(lower, upper syntax.Node) {
	p.optional(" >: ", p.typ, lower)
	p.optional(" <: ", p.typ, upper)
}

// given writes a given value. One without a name has no parameters.
func (p *printer) given(n syntax.Node) {
	names, lists := n.Kids[1], n.Kids[2]
	p.mods(n.Kids[0])
	p.put("given ")
	if n.Text != "" {
		p.word(n.Text)
		p.typeParams(names)
		p.lists(lists)
		p.put(": ")
	}
	p.wrong = p.wrong || n.Text == "" && len(names.Kids)+len(lists.Kids) > 0
	p.typ(n.Kids[3])
	p.value(n.Kids[4])
}

// extension writes methods that extend a type.
func (p *printer) extension(n syntax.Node) {
	p.put("extension ")
	p.typeParams(n.Kids[0])
	p.list("(", ")", p.param, n.Kids[1])
	p.members(p.node, n.Kids[2:]...)
}

// typeParams writes type parameters, if there are any.
func (p *printer) typeParams(n syntax.Node) {
	if len(n.Kids) > 0 {
		p.list("[", "]", p.typeParam, n.Kids...)
	}
}

// typeParam writes a type parameter.
func (p *printer) typeParam(n syntax.Node) {
	switch n.Num {
	case api.Covariant:
		p.put("+")
	case api.Contravariant:
		p.put("-")
	}
	p.word(n.Text)
	if arity := n.Kids[2:]; len(arity) > 0 {
		p.list("[", "]", p.wild, arity...)
	}
	p.bounds(n.Kids[0], n.Kids[1])
}

// lists writes lists of parameters.
func (p *printer) lists(n syntax.Node) { p.joined("", p.params, n.Kids...) }

// params writes a list of parameters.
func (p *printer) params(n syntax.Node) { p.using(n.Num == 1, p.param, n.Kids...) }

// using writes parameters or arguments in parentheses, perhaps with using in
// front of them.
func (p *printer) using(is bool, write func(syntax.Node), nodes ...syntax.Node) {
	switch {
	case !is:
		p.list("(", ")", write, nodes...)
	case len(nodes) == 0:
		p.put("(using)")
	default:
		p.list("(using ", ")", write, nodes...)
	}
}

// param writes a parameter.
func (p *printer) param(n syntax.Node) {
	p.mods(n.Kids[0])
	switch n.Num &^ passing {
	case valParam:
		p.put("val ")
	case varParam:
		p.put("var ")
	}
	p.word(n.Text)
	p.put(": ")
	if n.Num&passing == byName {
		p.put("=> ")
	}
	p.typ(n.Kids[1])
	if n.Num&passing == repeated {
		p.put("*")
	}
	p.value(n.Kids[2])
}
