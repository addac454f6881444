package desugar

import (
	"newel/api"
	"newel/syntax"
)

// Nums of SClass.
const (
	plainClass = 0
	caseClass  = 3
	caseObject = 4
	enum       = 5
)

// Places among the kids of SClass, SDef and SEnumCase.
const (
	classMods    = 0
	classNames   = 1
	classParents = 3
	classBody    = 4
	defNames     = 1
	defLists     = 2
	caseNames    = 0
	caseLists    = 1
	caseParents  = 2
)

func (d *desugaring) extension(n syntax.Node) []syntax.Node {
	names := n.Kids[0].Kids
	list := d.node(syntax.SParams, "", n.Kids[1])
	var defs []syntax.Node
	for _, def := range n.Kids[2:] {
		own, lists := def.Kids[defNames], def.Kids[defLists]
		own.Kids = joined(names, own.Kids)
		lists.Kids = joined([]syntax.Node{list}, lists.Kids)
		def.Num = 1
		defs = append(defs, with(with(def, defNames, own), defLists, lists))
	}
	return defs
}

// class replaces an enum by a class and the classes of its cases.
func (d *desugaring) class(n syntax.Node) []syntax.Node {
	if n.Num != enum {
		return []syntax.Node{n}
	}
	mods := n.Kids[classMods]
	if mods.Num&api.Final != 0 {
		fail(n.At, api.ErrFinal)
	}
	mods.Num |= api.Sealed | api.Abstract
	cases, others := parted(n.Kids[classBody].Kids)
	if len(cases) == 0 {
		fail(n.At, api.ErrEmpty)
	}
	body := d.none()
	if len(others) > 0 {
		body = n.Kids[classBody]
		body.Kids = others
	}
	n.Num = plainClass
	classes := []syntax.Node{with(with(n, classMods, mods), classBody, body)}
	for _, c := range cases {
		classes = append(classes, d.caseOf(n, c))
	}
	return classes
}

// parted returns the cases of a body, and what else stands in it.
func parted(body []syntax.Node) (cases, others []syntax.Node) {
	for _, k := range body {
		if k.Kind == syntax.SEnumCase {
			cases = append(cases, k)
		} else {
			others = append(others, k)
		}
	}
	return cases, others
}

// caseOf returns the class or object of a case of an enum, at the place of the
// case.
func (d *desugaring) caseOf(n, c syntax.Node) syntax.Node {
	d.at = c.At
	names, lists, parents := c.Kids[caseNames], c.Kids[caseLists], c.Kids[caseParents]
	of := n.Kids[classNames]
	orphan := len(parents.Kids) == 0
	if orphan && len(lists.Kids) > 0 && len(names.Kids) == 0 {
		names = of
	}
	made := d.node(syntax.SClass, c.Text, d.node(syntax.SMods, ""), names, lists, parents, d.none())
	made.Num = caseClass
	if len(lists.Kids) == 0 {
		made.Num = caseObject
		made.Kids[classNames] = d.node(syntax.SNames, "") // an object has no type parameters
	}
	if orphan {
		parents.Kids = []syntax.Node{d.node(syntax.SParent, "", d.parentOf(n.Text, of.Kids, made.Num))}
		made.Kids[classParents] = parents
	}
	return made
}

// parentOf returns the type that a case extends: the enum, applied to its type
// parameters.
func (d *desugaring) parentOf(name string, params []syntax.Node, num int64) syntax.Node {
	parent := d.node(syntax.TName, name)
	if len(params) == 0 {
		return parent
	}
	args := []syntax.Node{parent}
	for _, p := range params {
		arg := p.Text
		if num == caseObject {
			arg = d.extreme(p)
		}
		args = append(args, d.node(syntax.TName, arg))
	}
	return d.node(syntax.TApply, "", args...)
}

// extreme returns the name of the type that an object, which has none of its
// own, takes for a type parameter.
func (d *desugaring) extreme(param syntax.Node) string {
	switch param.Num {
	case api.Covariant:
		return "Nothing"
	case api.Contravariant:
		return "Any"
	}
	fail(d.at, api.ErrVariance)
	return ""
}

// strayCase is a case that no enum has taken out of its body.
func (d *desugaring) strayCase(n syntax.Node) syntax.Node {
	fail(n.At, api.ErrForm)
	return n
}

func (d *desugaring) lists(n syntax.Node) syntax.Node {
	if i := misplaced(n.Kids); i >= 0 {
		fail(n.Kids[i].At, api.ErrOrder)
	}
	return n
}

// misplaced returns the index of the first plain list of parameters that stands
// behind a using list, -1 if there is none.
func misplaced(lists []syntax.Node) int {
	for i := 1; i < len(lists); i++ {
		if lists[i].Num < lists[i-1].Num {
			return i
		}
	}
	return -1
}
