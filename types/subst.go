package types

import "newel/api"

// copier makes a new type out of others, node by node. It gives up when there
// are too many nodes: arguments that stand at many places could be more than
// the memory can hold.
type copier struct{ size int }

// change tells what stands in the place of a node that stands inside of some
// binders of its type: the node itself, perhaps with another number, whose Args
// are copied next, or, with true, a new type in its place.
type change func(t api.Type, inner int) (api.Type, bool)

func (c *copier) copy(t api.Type, inner int, with change) api.Type {
	if c.size > MaxSize {
		return api.Type{}
	}
	t, whole := with(t, inner)
	if whole {
		return t
	}
	c.size++
	args := t.Args
	t.Args = nil
	for i, x := range args {
		k := inner
		if binds(&t, i) {
			k++
		}
		t.Args = append(t.Args, c.copy(x, k, with))
	}
	return t
}

// shifted copies an argument to a place inside of some binders, where its free
// TBounds keep their binders.
func (c *copier) shifted(arg api.Type, by int) api.Type {
	return c.copy(arg, 0, func(t api.Type, inner int) (api.Type, bool) {
		if t.Kind == api.TBound && t.Sym >= inner {
			t.Sym += by
		}
		return t, false
	})
}

// result returns what was made, or the error if it is beyond the limits.
func (c *copier) result(t api.Type) (api.Type, api.Errno) {
	if c.size > MaxSize {
		return api.Type{}, api.ErrLimit
	}
	if code := limits(t); code != api.OK {
		return api.Type{}, code
	}
	return t, api.OK
}

// clone returns a copy of a type within the limits.
func clone(t api.Type) api.Type {
	return new(copier).shifted(t, 0)
}

// Subst replaces type parameters by arguments.
func Subst(t api.Type, params []int, args []api.Type) (api.Type, api.Errno) {
	if code := allLimits(t, args); code != api.OK {
		return api.Type{}, code
	}
	if len(params) != len(args) {
		return api.Type{}, api.ErrArity
	}
	by := map[int]api.Type{}
	for i, param := range params {
		if _, ok := by[param]; ok {
			return api.Type{}, api.ErrTwice
		}
		by[param] = args[i]
	}
	c := &copier{}
	return c.result(c.copy(t, 0, func(x api.Type, inner int) (api.Type, bool) {
		if arg, ok := by[x.Sym]; ok && x.Kind == api.TParam {
			return c.shifted(arg, inner), true
		}
		return x, false
	}))
}

// allLimits returns the error of the first of a type and its arguments that is
// beyond the limits.
func allLimits(t api.Type, args []api.Type) api.Errno {
	if code := limits(t); code != api.OK {
		return code
	}
	return limits(args...)
}

// Open replaces the variables of a TLambda in its body.
func Open(t api.Type, args []api.Type) (api.Type, api.Errno) {
	if code := allLimits(t, args); code != api.OK {
		return api.Type{}, code
	}
	if t.Kind != api.TLambda || len(t.Args) != 1 {
		return api.Type{}, api.ErrKind
	}
	if len(args) != t.Num {
		return api.Type{}, api.ErrArity
	}
	return opened(t.Args[0], args)
}

// OpenCase replaces the variables of a case of a TMatch in its pattern and its
// body.
func OpenCase(t api.Type, k int, args []api.Type) (pattern, body api.Type, e api.Errno) {
	if code := allLimits(t, args); code != api.OK {
		return api.Type{}, api.Type{}, code
	}
	if t.Kind != api.TMatch {
		return api.Type{}, api.Type{}, api.ErrKind
	}
	if k < 0 || k >= (len(t.Args)-1)/2 {
		return api.Type{}, api.Type{}, api.ErrRange
	}
	if len(args) != t.Num {
		return api.Type{}, api.Type{}, api.ErrArity
	}
	pattern, code := opened(t.Args[2*k+1], args)
	if code != api.OK {
		return api.Type{}, api.Type{}, code
	}
	body, code = opened(t.Args[2*k+2], args)
	if code != api.OK {
		return api.Type{}, api.Type{}, code
	}
	return pattern, body, api.OK
}

// opened takes the binder around a type away, with arguments for its variables.
func opened(t api.Type, args []api.Type) (api.Type, api.Errno) {
	c := &copier{}
	return c.result(c.copy(t, 0, func(x api.Type, inner int) (api.Type, bool) {
		if x.Kind != api.TBound || x.Sym < inner {
			return x, false
		}
		if x.Sym > inner {
			x.Sym--
			return x, false
		}
		// A number that the binder does not have can be no variable of it.
		if !has(args, x.Num) {
			return x, false
		}
		return c.shifted(args[x.Num], inner), true
	}))
}
