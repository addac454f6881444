package types

import (
	"slices"

	"newel/api"
)

// maxSteps is how many steps a normal form may need.
const maxSteps = 1000

// normalizer counts the steps of a normal form: type functions that are
// applied, and intersections that are made of a union in an intersection.
type normalizer struct{ steps int }

// Normal returns the normal form of a type.
func Normal(t api.Type) (api.Type, api.Errno) {
	if code := limits(t); code != api.OK {
		return api.Type{}, code
	}
	r, code := new(normalizer).normal(t)
	if code != api.OK {
		return api.Type{}, code
	}
	return clone(r), api.OK
}

// step counts some steps.
func (n *normalizer) step(count int) api.Errno {
	n.steps += count
	if n.steps > maxSteps {
		return api.ErrFuel
	}
	return api.OK
}

// normal may return a type that shares Args with others.
func (n *normalizer) normal(t api.Type) (api.Type, api.Errno) {
	args := make([]api.Type, len(t.Args))
	for i, x := range t.Args {
		arg, code := n.normal(x)
		if code != api.OK {
			return api.Type{}, code
		}
		args[i] = arg
	}
	t.Args = args
	return limited(n.outside(t))
}

// limited puts the error of a type beyond the limits into its place.
func limited(t api.Type, code api.Errno) (api.Type, api.Errno) {
	if code == api.OK {
		code = limits(t)
	}
	if code != api.OK {
		return api.Type{}, code
	}
	return t, api.OK
}

// outside returns the normal form of a type whose parts are normal.
func (n *normalizer) outside(t api.Type) (api.Type, api.Errno) {
	if !permits(t.Kind, len(t.Args)) {
		return t, api.OK
	}
	switch t.Kind {
	case api.TApply:
		return n.applied(t)
	case api.TAnd:
		return n.and(t.Args)
	case api.TOr:
		return join(t.Args), api.OK
	case api.TWild:
		if Equal(t.Args[0], t.Args[1]) {
			return t.Args[0], api.OK
		}
	}
	return t, api.OK
}

// applied is rule 1.
func (n *normalizer) applied(t api.Type) (api.Type, api.Errno) {
	f, args := t.Args[0], t.Args[1:]
	if f.Kind != api.TLambda || len(f.Args) != 1 || f.Num != len(args) {
		return t, api.OK
	}
	if code := n.step(1); code != api.OK {
		return api.Type{}, code
	}
	r, code := Open(f, args)
	if code != api.OK {
		return api.Type{}, code
	}
	return n.normal(r)
}

// and is rule 2.
func (n *normalizer) and(args []api.Type) (api.Type, api.Errno) {
	l := flat(api.TAnd, args)
	at := slices.IndexFunc(l, isKindOf(api.TOr))
	if at < 0 {
		return meet(l), api.OK
	}
	choices := l[at].Args
	if code := n.step(len(choices)); code != api.OK {
		return api.Type{}, code
	}
	var ands []api.Type
	for _, x := range choices {
		l[at] = x
		t, code := limited(n.and(l))
		if code != api.OK {
			return api.Type{}, code
		}
		ands = append(ands, t)
	}
	return join(ands), api.OK
}

// meet is rule 2 for a list without unions.
func meet(l []api.Type) api.Type {
	groups := groupsOf(l)
	switch {
	case slices.ContainsFunc(l, isKindOf(api.TNothing)) || isEmpty(groups):
		return api.Type{Kind: api.TNothing}
	case groups[api.TNull] || len(groups) > 1:
		// A TNull that stands alone is replaced as well: one of a raw type can
		// have fields that its kind does not use.
		l = slices.DeleteFunc(l, func(t api.Type) bool { return t.Kind == api.TNull || isReference(t.Kind) })
		l = append(l, api.Type{Kind: api.TNull})
	}
	return several(api.TAnd, distinct(slices.DeleteFunc(l, isKindOf(api.TAny))), api.TAny)
}

// groupsOf returns the groups of some types, and TNull if it is one of them.
func groupsOf(l []api.Type) map[int]bool {
	groups := map[int]bool{}
	for _, t := range l {
		if hasGroup(t.Kind) || t.Kind == api.TNull {
			groups[t.Kind] = true
		}
	}
	return groups
}

// isEmpty reports whether types of some groups have no value in common.
func isEmpty(groups map[int]bool) bool {
	for kind := range groups {
		if kind != api.TNull && !isReference(kind) {
			return len(groups) > 1
		}
	}
	return false
}

// join is rule 3.
func join(args []api.Type) api.Type {
	l := flat(api.TOr, args)
	if slices.ContainsFunc(l, isKindOf(api.TAny)) {
		return api.Type{Kind: api.TAny}
	}
	l = distinct(slices.DeleteFunc(l, isKindOf(api.TNothing)))
	return several(api.TOr, withoutAbsorbed(l), api.TNothing)
}

func isKindOf(kind int) func(api.Type) bool {
	return func(t api.Type) bool { return t.Kind == kind }
}

// flat returns a new list in which the Args of types of a kind stand in their
// place.
func flat(kind int, args []api.Type) []api.Type {
	var l []api.Type
	for _, t := range args {
		if t.Kind == kind {
			l = append(l, flat(kind, t.Args)...)
		} else {
			l = append(l, t)
		}
	}
	return l
}

// distinct puts the types of a list into order, each once.
func distinct(l []api.Type) []api.Type {
	slices.SortFunc(l, Compare)
	return slices.CompactFunc(l, Equal)
}

// several returns the type of a kind with these Args, for none of them another
// one.
func several(kind int, l []api.Type, none int) api.Type {
	switch len(l) {
	case 0:
		return api.Type{Kind: none}
	case 1:
		return l[0]
	}
	return api.Type{Kind: kind, Args: l}
}
