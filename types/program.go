package types

import (
	"newel/api"
	"newel/symbols"
)

// tables is a program whose types are looked at.
type tables struct{ p api.Program }

// rule is what the types of the items of a part have to keep.
type rule struct {
	part, size int
	code       func(t *tables, index int) api.Errno
}

// rules returns what CheckAll looks at, in its order.
func (t *tables) rules() []rule {
	return []rule{
		{symbols.PClass, len(t.p.Classes), (*tables).parents},
		{symbols.PField, len(t.p.Fields), (*tables).field},
		{symbols.PTParam, len(t.p.TParams), (*tables).typeParam},
		{symbols.PTypeMember, len(t.p.Types), (*tables).typeMember},
		{symbols.PMethod, len(t.p.Methods), (*tables).method},
	}
}

// CheckAll returns the first fault of a program and of the types in it.
func CheckAll(p api.Program) symbols.Fault {
	if fault := symbols.Check(p); fault.Code != api.OK {
		return fault
	}
	t := &tables{p}
	for _, r := range t.rules() {
		for i := range r.size {
			if code := r.code(t, i); code != api.OK {
				return symbols.Fault{Part: r.part, Index: i, Code: code}
			}
		}
	}
	return symbols.Fault{}
}

// parents looks at the parents of a class.
func (t *tables) parents(index int) api.Errno {
	s := t.classScope(index)
	delete(s.this, index)
	for _, x := range t.p.Classes[index].Parents {
		if code := Check(api.Env{P: t.p}, x); code != api.OK {
			return code
		}
		for _, arg := range x.Args {
			if arg.Kind == api.TWild {
				return api.ErrInvalid
			}
		}
		if !s.has(x) {
			return api.ErrInvalid
		}
	}
	return api.OK
}

// field looks at the type of a field.
func (t *tables) field(index int) api.Errno {
	f := t.p.Fields[index]
	return proper(api.Env{P: t.p}, f.Type, api.TNone, t.classScope(f.Owner))
}

// proper looks at a type that has to be proper and in scope. Of the kinds
// TByName and TRepeat it may be the one that is permitted alone.
func proper(env api.Env, x api.Type, permitted int, s *scope) api.Errno {
	if code := Check(env, x); code != api.OK {
		return code
	}
	switch {
	case Arity(env, x) != 0:
		return api.ErrArity
	case isParamKind(x.Kind) && x.Kind != permitted:
		return api.ErrInvalid
	case !s.has(x):
		return api.ErrInvalid
	}
	return api.OK
}

// isParamKind reports whether a kind is one of parameters alone.
func isParamKind(kind int) bool { return kind == api.TByName || kind == api.TRepeat }

// typeParam looks at the bounds of a type parameter.
func (t *tables) typeParam(index int) api.Errno {
	x := t.p.TParams[index]
	if x.Method == -1 {
		return t.bounds(x.Lo, x.Hi, x.Arity, t.classScope(x.Class))
	}
	return t.bounds(x.Lo, x.Hi, x.Arity, t.methodScope(x.Method))
}

// typeMember looks at the bounds of a type member.
func (t *tables) typeMember(index int) api.Errno {
	x := t.p.Types[index]
	return t.bounds(x.Lo, x.Hi, x.Arity, t.classScope(x.Owner))
}

// bounds looks at a lower and an upper bound. The least and the greatest type
// are bounds of type functions, too.
func (t *tables) bounds(lo, hi api.Type, arity int, s *scope) api.Errno {
	if code := t.bound(lo, api.TNothing, arity, s); code != api.OK {
		return code
	}
	return t.bound(hi, api.TAny, arity, s)
}

func (t *tables) bound(x api.Type, extreme, arity int, s *scope) api.Errno {
	env := api.Env{P: t.p}
	if code := Check(env, x); code != api.OK {
		return code
	}
	switch {
	case x.Kind != extreme && Arity(env, x) != arity:
		return api.ErrArity
	case isParamKind(x.Kind) || !s.has(x):
		return api.ErrInvalid
	}
	return api.OK
}

// method looks at the types of the locals of a method and at its result.
func (t *tables) method(index int) api.Errno {
	m := t.p.Methods[index]
	env := api.Env{P: t.p, Locals: m.Locals}
	s := t.methodScope(index)
	inner := t.bodyScope(index)
	repeated := lastExplicit(m)
	for i, x := range m.Locals {
		around, permitted := s, api.TNone
		switch {
		case i >= m.Params:
			around = inner
		case x.Type.Kind == api.TByName || i == repeated:
			permitted = x.Type.Kind
		}
		if code := proper(env, x.Type, permitted, around); code != api.OK {
			return code
		}
	}
	return proper(env, m.Result, api.TNone, s)
}

// lastExplicit returns the last parameter of a method that is given by
// arguments, -1 if there is none.
func lastExplicit(m api.Method) int {
	for i := m.Params - 1; i >= 0; i-- {
		if m.Locals[i].Flags&api.Using == 0 {
			return i
		}
	}
	return -1
}
