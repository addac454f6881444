package symbols

import (
	"slices"

	"newel/api"
)

// class is rule 2: what a class is by itself.
func (t *tables) class(index int) api.Errno {
	k := t.p.Classes[index]
	switch {
	case !IsName(k.Name):
		return api.ErrName
	case k.Kind < 0 || k.Kind >= api.ClassKinds:
		return api.ErrKind
	case foreign(PClass, k.Flags) || !agrees(k.Kind, k.Flags):
		return api.ErrInvalid
	case k.Owner == index || k.Owner != -1 && !t.has(PClass, k.Owner) || !t.hasLists(k):
		return api.ErrRange
	case twice(k.TParams) || twice(k.Params) || twice(k.Fields) || twice(k.Methods) || twice(k.Types):
		return api.ErrTwice
	case !countsFit(k):
		return api.ErrArity
	case !t.owns(index) || !within(k.Params, k.Fields):
		return api.ErrInvalid
	case hasAny(k.Flags, api.Value) && (len(k.Params) != 1 || len(k.Fields) != 1):
		return api.ErrInvalid
	}
	return api.OK
}

// agrees reports whether the flags of a class suit each other and its kind.
func agrees(kind, flags int) bool {
	if both(flags, api.Abstract, api.Final) {
		return false
	}
	switch kind {
	case api.IsTrait:
		return !hasAny(flags, api.Final|api.Case|api.Value)
	case api.IsObject:
		return !hasAny(flags, api.Abstract|api.Sealed|api.Value)
	}
	return true
}

// hasLists reports whether all indices in the lists of a class exist.
func (t *tables) hasLists(k api.Class) bool {
	return t.hasAll(PTParam, k.TParams) && t.hasAll(PField, k.Params) && t.hasAll(PField, k.Fields) &&
		t.hasAll(PMethod, k.Methods) && t.hasAll(PTypeMember, k.Types)
}

// twice reports whether an index stands twice in a list.
func twice(list []int) bool {
	seen := map[int]bool{}
	for _, index := range list {
		if seen[index] {
			return true
		}
		seen[index] = true
	}
	return false
}

// within reports whether all elements of a list are in another one.
func within(list, other []int) bool {
	set := map[int]bool{}
	for _, index := range other {
		set[index] = true
	}
	for _, index := range list {
		if !set[index] {
			return false
		}
	}
	return true
}

// countsFit reports whether a class has as many parameters as it may have.
func countsFit(k api.Class) bool {
	if len(k.TParams) > api.MaxArgs || len(k.Params) > api.MaxArgs {
		return false
	}
	if k.Kind != api.IsClass && len(k.Params) > 0 {
		return false
	}
	return k.Kind != api.IsObject || len(k.TParams) == 0
}

// owns reports whether what stands in the lists of a class belongs to it.
func (t *tables) owns(index int) bool {
	k := t.p.Classes[index]
	for _, i := range k.Fields {
		if t.p.Fields[i].Owner != index {
			return false
		}
	}
	for _, i := range k.Methods {
		if t.p.Methods[i].Owner != index {
			return false
		}
	}
	for _, i := range k.Types {
		if t.p.Types[i].Owner != index {
			return false
		}
	}
	for _, i := range k.TParams {
		if x := t.p.TParams[i]; x.Class != index || x.Method != -1 {
			return false
		}
	}
	return true
}

// nesting is rule 3.
func (t *tables) nesting(index int) api.Errno {
	if Inside(t.p, index, index) {
		return api.ErrCycle
	}
	return api.OK
}

// parents is rule 4.
func (t *tables) parents(index int) api.Errno {
	k := t.p.Classes[index]
	if len(k.Parents) == 0 {
		return api.ErrEmpty
	}
	if len(k.Parents) > api.MaxArgs {
		return api.ErrLimit
	}
	for place := range k.Parents {
		if code := t.parent(k, place); code != api.OK {
			return code
		}
	}
	return api.OK
}

// parent looks at one of the parents of a class.
func (t *tables) parent(k api.Class, place int) api.Errno {
	x := k.Parents[place]
	if place == 0 && x.Kind == api.TAny {
		return api.OK
	}
	if x.Kind != api.TClass {
		return api.ErrKind
	}
	if !t.has(PClass, x.Sym) {
		return api.ErrRange
	}
	parent := t.p.Classes[x.Sym]
	switch {
	case place == 0 && (k.Kind == api.IsTrait || parent.Kind != api.IsClass):
		return api.ErrKind
	case place > 0 && parent.Kind != api.IsTrait:
		return api.ErrKind
	case hasAny(parent.Flags, api.Final):
		return api.ErrFinal
	case len(parent.TParams) != len(x.Args):
		return api.ErrArity
	case slices.ContainsFunc(k.Parents[:place], func(y api.Type) bool { return isOf(y, x.Sym) }):
		return api.ErrTwice
	case hasAny(k.Flags&parent.Flags, api.Case) || place == 0 && hasAny(k.Flags, api.Value):
		return api.ErrInvalid
	}
	return api.OK
}

// ancestry is rule 5.
func (t *tables) ancestry(index int) api.Errno {
	above := Ancestors(t.p, index)
	if slices.Contains(above, index) {
		return api.ErrCycle
	}
	if hasAny(t.p.Classes[index].Flags, api.Case) {
		for _, i := range above {
			if hasAny(t.p.Classes[i].Flags, api.Case) {
				return api.ErrInvalid
			}
		}
	}
	return api.OK
}
