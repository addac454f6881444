package symbols

import (
	"slices"

	"newel/api"
)

// method is rule 6.
func (t *tables) method(index int) api.Errno {
	m := t.p.Methods[index]
	abstract := hasAny(m.Flags, api.Abstract)
	switch {
	case !IsName(m.Name):
		return api.ErrName
	case foreign(PMethod, m.Flags) || abstract != (m.Body == nil):
		return api.ErrInvalid
	case abstract && hasAny(m.Flags, api.Final|api.Private|api.Inline):
		return api.ErrInvalid
	case m.Owner != -1 && !t.has(PClass, m.Owner) || !t.hasAll(PTParam, m.TParams):
		return api.ErrRange
	case twice(m.TParams):
		return api.ErrTwice
	case len(m.TParams) > api.MaxArgs || m.Params < 0 || m.Params > api.MaxArgs || m.Params > len(m.Locals):
		return api.ErrArity
	case len(m.Locals) > api.MaxLocals:
		return api.ErrLimit
	}
	if code := locals(m); code != api.OK {
		return code
	}
	return t.belongs(index)
}

// locals looks at the locals of a method, one by one, and then at the names of
// its parameters.
func locals(m api.Method) api.Errno {
	for i, x := range m.Locals {
		part := local
		if i < m.Params {
			part = parameter
		}
		if !IsName(x.Name) {
			return api.ErrName
		}
		if foreign(part, x.Flags) || both(x.Flags, api.Lazy, api.Var) {
			return api.ErrInvalid
		}
	}
	names := map[string]bool{}
	for _, x := range m.Locals[:m.Params] {
		if names[x.Name] {
			return api.ErrTwice
		}
		names[x.Name] = true
	}
	return api.OK
}

// belongs looks at what a method has, and at what has the method.
func (t *tables) belongs(index int) api.Errno {
	m := t.p.Methods[index]
	for _, i := range m.TParams {
		if x := t.p.TParams[i]; x.Method != index || x.Class != -1 {
			return api.ErrInvalid
		}
	}
	abstract := hasAny(m.Flags, api.Abstract)
	if m.Owner == -1 {
		switch {
		case abstract:
			return api.ErrAbstract
		case hasAny(m.Flags, api.Override):
			return api.ErrInvalid
		}
		return api.OK
	}
	k := t.p.Classes[m.Owner]
	if !slices.Contains(k.Methods, index) {
		return api.ErrNoEntry
	}
	if abstract && k.Kind != api.IsTrait && !hasAny(k.Flags, api.Abstract) {
		return api.ErrAbstract
	}
	return api.OK
}

// field is rule 7 for fields.
func (t *tables) field(index int) api.Errno {
	f := t.p.Fields[index]
	switch {
	case !IsName(f.Name):
		return api.ErrName
	case foreign(PField, f.Flags) || both(f.Flags, api.Lazy, api.Var):
		return api.ErrInvalid
	case hasAny(f.Flags, api.Volatile) && !hasAny(f.Flags, api.Var):
		return api.ErrInvalid
	case !t.has(PClass, f.Owner):
		return api.ErrRange
	}
	k := t.p.Classes[f.Owner]
	if !slices.Contains(k.Fields, index) {
		return api.ErrNoEntry
	}
	if hasAny(f.Flags, api.Lazy) && slices.Contains(k.Params, index) {
		return api.ErrInvalid
	}
	return api.OK
}

// typeParam is rule 7 for type parameters.
func (t *tables) typeParam(index int) api.Errno {
	x := t.p.TParams[index]
	ofClass := x.Method == -1 && t.has(PClass, x.Class)
	ofMethod := x.Class == -1 && t.has(PMethod, x.Method)
	switch {
	case !IsName(x.Name):
		return api.ErrName
	case x.Variance < api.Contravariant || x.Variance > api.Covariant || !isArity(x.Arity):
		return api.ErrRange
	case !ofClass && !ofMethod:
		return api.ErrRange
	case !slices.Contains(t.listOf(x), index):
		return api.ErrNoEntry
	case ofMethod && x.Variance != api.Invariant:
		return api.ErrVariance
	}
	return api.OK
}

// listOf returns the type parameters of the class or method to which one
// belongs.
func (t *tables) listOf(x api.TypeParam) []int {
	if x.Method == -1 {
		return t.p.Classes[x.Class].TParams
	}
	return t.p.Methods[x.Method].TParams
}

// isArity reports whether type functions may have so many parameters.
func isArity(n int) bool { return n >= 0 && n <= api.MaxArgs }

// typeMember is rule 7 for type members.
func (t *tables) typeMember(index int) api.Errno {
	x := t.p.Types[index]
	switch {
	case !IsName(x.Name):
		return api.ErrName
	case !t.has(PClass, x.Owner) || !isArity(x.Arity):
		return api.ErrRange
	case !slices.Contains(t.p.Classes[x.Owner].Types, index):
		return api.ErrNoEntry
	}
	return api.OK
}
