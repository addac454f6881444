package types

import (
	"newel/api"
	"newel/symbols"
)

// checker looks at nodes in an environment.
type checker struct{ env api.Env }

// Check returns the first error of a type.
func Check(env api.Env, t api.Type) api.Errno {
	if code := limits(t); code != api.OK {
		return code
	}
	c := &checker{env}
	for p := range nodes(t) {
		if code := c.node(p); code != api.OK {
			return code
		}
	}
	return api.OK
}

// node looks at a node by the rules in their order. Each rule relies on those
// in front of it.
func (c *checker) node(p *place) api.Errno {
	switch {
	case !isKind(p.node.Kind):
		return api.ErrKind
	case !hasForm(p.node):
		return api.ErrForm
	case !c.inRange(p):
		return api.ErrRange
	case !c.hasArities(p.node):
		return api.ErrArity
	case !c.isValid(p):
		return api.ErrInvalid
	}
	return api.OK
}

// inRange is rule 3.
func (c *checker) inRange(p *place) bool {
	t := p.node
	switch t.Kind {
	case api.TClass:
		return has(c.env.P.Classes, t.Sym) && c.hasParams(c.env.P.Classes[t.Sym])
	case api.TThis:
		return has(c.env.P.Classes, t.Sym)
	case api.TParam:
		return has(c.env.P.TParams, t.Sym)
	case api.TMember:
		return has(c.env.P.Types, t.Sym)
	case api.TLocal:
		return has(c.env.Locals, t.Sym)
	case api.TField:
		return has(c.env.P.Fields, t.Sym)
	case api.TLambda:
		return t.Num >= 1 && t.Num <= api.MaxArgs
	case api.TMatch:
		return t.Num >= 0 && t.Num <= api.MaxArgs
	case api.TVar:
		return t.Num >= 0 && t.Num <= 99
	case api.TBound:
		binder := p.binder()
		return binder != nil && t.Num >= 0 && t.Num < binder.Num
	}
	return true
}

// hasParams reports whether the type parameters of a class exist.
func (c *checker) hasParams(k api.Class) bool {
	for _, i := range k.TParams {
		if !has(c.env.P.TParams, i) {
			return false
		}
	}
	return true
}

// hasArities is rule 4.
func (c *checker) hasArities(t *api.Type) bool {
	if t.Kind == api.TClass {
		return c.suits(t.Args, c.env.P.Classes[t.Sym].TParams)
	}
	for i, x := range t.Args {
		want := 0
		if t.Kind == api.TApply && i == 0 {
			want = len(t.Args) - 1
		}
		if Arity(c.env, x) != want {
			return false
		}
	}
	return true
}

// suits reports whether arguments have the number and the arities of type
// parameters.
func (c *checker) suits(args []api.Type, params []int) bool {
	if len(args) != len(params) {
		return false
	}
	for i, x := range args {
		if x.Kind != api.TWild && Arity(c.env, x) != c.env.P.TParams[params[i]].Arity {
			return false
		}
	}
	return true
}

// isValid is rule 5.
func (c *checker) isValid(p *place) bool {
	t := p.node
	switch t.Kind {
	case api.TMember:
		return isSingleton(t.Args[0].Kind)
	case api.TField:
		return isSingleton(t.Args[0].Kind) && isStable(c.env.P.Fields[t.Sym].Flags)
	case api.TLocal:
		return isStable(c.env.Locals[t.Sym].Flags)
	case api.TByName:
		return p.around == nil || p.isParam()
	case api.TRepeat:
		return p.around == nil || p.isParam() && p.index == len(p.around.node.Args)-2
	case api.TWild:
		return p.around != nil && p.around.node.Kind == api.TClass
	case api.TRefine:
		return symbols.IsName(t.Name)
	}
	return true
}

// isStable reports whether a field or local with these flags has one value from
// its beginning on.
func isStable(flags int) bool { return flags&(api.Var|api.Lazy) == 0 }

// isParam reports whether a place is that of a parameter of a TFun.
func (p *place) isParam() bool {
	around := p.around.node
	return around.Kind == api.TFun && p.index < len(around.Args)-1
}
