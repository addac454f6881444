package types

import "newel/api"

// scope is what may occur in a type: type parameters of some classes and of a
// method (-1: none), this of some classes, and the first ones of the locals.
type scope struct {
	t      *tables
	owners map[int]bool
	this   map[int]bool
	method int
	locals int
}

// classScope is the scope of what a class declares, of nothing for -1.
func (t *tables) classScope(class int) *scope {
	s := &scope{t: t, owners: map[int]bool{}, this: map[int]bool{}, method: -1}
	if class == -1 {
		return s
	}
	s.owners[class] = true
	s.this[class] = true
	for _, k := range t.around(class) {
		if t.p.Classes[k].Kind == api.IsObject {
			s.this[k] = true
		}
	}
	return s
}

// around returns the classes around a class.
func (t *tables) around(class int) []int {
	var l []int
	for k := t.p.Classes[class].Owner; k != -1; k = t.p.Classes[k].Owner {
		l = append(l, k)
	}
	return l
}

// methodScope is the scope of what a method declares.
func (t *tables) methodScope(method int) *scope {
	m := t.p.Methods[method]
	s := t.classScope(m.Owner)
	s.method = method
	s.locals = m.Params
	return s
}

// bodyScope is the scope of the locals of a method that are no parameters.
func (t *tables) bodyScope(method int) *scope {
	m := t.p.Methods[method]
	s := t.methodScope(method)
	s.locals = len(m.Locals)
	if m.Owner != -1 {
		for _, k := range t.around(m.Owner) {
			s.owners[k] = true
			s.this[k] = true
		}
	}
	return s
}

// has reports whether all nodes of a type that Check accepts are in a scope.
func (s *scope) has(t api.Type) bool {
	for p := range nodes(t) {
		in := true
		switch p.node.Kind {
		case api.TParam:
			in = s.hasParam(p.node.Sym)
		case api.TThis:
			in = s.this[p.node.Sym]
		case api.TLocal:
			in = p.node.Sym < s.locals
		case api.TVar:
			in = false
		}
		if !in {
			return false
		}
	}
	return true
}

func (s *scope) hasParam(index int) bool {
	x := s.t.p.TParams[index]
	if x.Method == -1 {
		return s.owners[x.Class]
	}
	return x.Method == s.method
}
