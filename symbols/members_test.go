package symbols

import (
	"testing"

	"newel/api"
)

// P6.1: rule 6.
func TestMethods(t *testing.T) {
	at := func(index int, code api.Errno) Fault { return Fault{PMethod, index, code} }
	set := func(index int, do func(m *api.Method)) func(p *api.Program) {
		return func(p *api.Program) { do(&p.Methods[index]) }
	}
	flags := func(index, flags int) func(p *api.Program) {
		return set(index, func(m *api.Method) { m.Flags = flags })
	}
	wantChanges(t, []change{
		{"no name", set(run, func(m *api.Method) { m.Name = "" }), at(run, api.ErrName)},
		{"a wrong name", set(run, func(m *api.Method) { m.Name = "1a" }), at(run, api.ErrName)},
		{"an operator", set(run, func(m *api.Method) { m.Name = "++" }), Fault{}},
		{"abstract with a body", flags(leafM, api.Abstract), at(leafM, api.ErrInvalid)},
		{"no body", set(leafM, func(m *api.Method) { m.Body = nil }), at(leafM, api.ErrInvalid)},
		{"abstract and final", flags(trM, api.Abstract|api.Final), at(trM, api.ErrInvalid)},
		{"abstract and private", flags(trM, api.Abstract|api.Private), at(trM, api.ErrInvalid)},
		{"abstract and inline", flags(trM, api.Abstract|api.Inline), at(trM, api.ErrInvalid)},
		{"abstract and all others", flags(trM, api.Abstract|api.Override|api.Given|api.Extension|api.Synthetic), Fault{}},
		{"all but abstract", flags(leafM, api.Final|api.Private|api.Override|api.Given|api.Inline|api.Extension|api.Synthetic), Fault{}},
		{"the owner -2", set(fun, func(m *api.Method) { m.Owner = -2 }), at(fun, api.ErrRange)},
		{"an owner behind the classes", set(fun, func(m *api.Method) { m.Owner = 9 }), at(fun, api.ErrRange)},
		{"the type parameter -1", set(fun, func(m *api.Method) { m.TParams = []int{-1} }), at(fun, api.ErrRange)},
		{"the type parameter 4", set(fun, func(m *api.Method) { m.TParams = []int{4} }), at(fun, api.ErrRange)},
		{"a type parameter twice", set(fun, func(m *api.Method) { m.TParams = []int{funD, funD} }), at(fun, api.ErrTwice)},
		{"Params below 0", set(fun, func(m *api.Method) { m.Params = -1 }), at(fun, api.ErrArity)},
		{"more Params than Locals", set(fun, func(m *api.Method) { m.Params = 2 }), at(fun, api.ErrArity)},
		{"fewer Params than Locals", set(fun, func(m *api.Method) { m.Params = 0 }), Fault{}},
		{"a type parameter of a class", set(fun, func(m *api.Method) { m.TParams = []int{baseA} }), at(fun, api.ErrInvalid)},
		{"a type parameter of another method", set(fun, func(m *api.Method) { m.TParams = []int{baseNC} }), at(fun, api.ErrInvalid)},
		{"a type parameter with a class", func(p *api.Program) { p.TParams[funD].Class = tr }, at(fun, api.ErrInvalid)},
		{"a type parameter with the class -2", func(p *api.Program) { p.TParams[funD].Class = -2 }, at(fun, api.ErrInvalid)},
		{"not in the list of its owner", func(p *api.Program) { p.Classes[leaf].Methods = nil }, at(leafM, api.ErrNoEntry)},
		{"an abstract function", func(p *api.Program) {
			p.Methods[fun].Flags, p.Methods[fun].Body = api.Abstract, nil
		}, at(fun, api.ErrAbstract)},
		{"an abstract function with override", func(p *api.Program) {
			p.Methods[fun].Flags, p.Methods[fun].Body = api.Abstract|api.Override, nil
		}, at(fun, api.ErrAbstract)},
		{"abstract in an object", func(p *api.Program) {
			p.Methods[run].Flags, p.Methods[run].Body = api.Abstract, nil
		}, at(run, api.ErrAbstract)},
		{"abstract in a class that is not", func(p *api.Program) { p.Classes[base].Flags = api.Sealed }, at(baseM, api.ErrAbstract)},
		{"abstract, and not in the list", func(p *api.Program) {
			p.Classes[base].Flags = 0
			p.Classes[base].Methods = []int{baseN}
		}, at(baseM, api.ErrNoEntry)},
		{"a function with override", flags(fun, api.Override), at(fun, api.ErrInvalid)},
	})
}

// P6.1: rule 6, its limits.
func TestMethodLimits(t *testing.T) {
	fill := func(locals, params int) api.Program {
		m := newMaker()
		m.method(-1, "f", 0)
		for i := range locals {
			m.local(0, digitsOf(i), 0)
		}
		m.p.Methods[0].Params = params
		return m.p
	}
	wantFault(t, "12 params", fill(12, 12), Fault{})
	wantFault(t, "12 of 13 locals", fill(13, 12), Fault{})
	wantFault(t, "13 params", fill(13, 13), Fault{PMethod, 0, api.ErrArity})
	wantFault(t, "200 locals", fill(200, 3), Fault{})
	wantFault(t, "201 locals", fill(201, 3), Fault{PMethod, 0, api.ErrLimit})
	wantFault(t, "201 locals and 13 params", fill(201, 13), Fault{PMethod, 0, api.ErrArity})
	p := fill(201, 3)
	p.Methods[0].Locals[0].Name = ""
	wantFault(t, "201 locals and a wrong name", p, Fault{PMethod, 0, api.ErrLimit})
	for count, want := range map[int]Fault{api.MaxArgs: {}, api.MaxArgs + 1: {PMethod, 0, api.ErrArity}} {
		m := newMaker()
		m.method(-1, "f", 0)
		for i := range count {
			m.methodParam(0, digitsOf(i))
		}
		wantFault(t, "TParams", m.p, want)
	}
}

// P6.1: rule 6, locals and parameters.
func TestLocals(t *testing.T) {
	at := func(code api.Errno) Fault { return Fault{PMethod, 0, code} }
	for _, c := range []struct {
		what string
		do   func(l []api.Local)
		want Fault
	}{
		{"right", func(l []api.Local) {}, Fault{}},
		{"no name of a parameter", func(l []api.Local) { l[1].Name = "" }, at(api.ErrName)},
		{"no name of a local", func(l []api.Local) { l[3].Name = "a.b" }, at(api.ErrName)},
		{"a name of 65 bytes", func(l []api.Local) { l[3].Name = long(65) }, at(api.ErrName)},
		{"an operator and a name of 64 bytes", func(l []api.Local) { l[3].Name, l[0].Name = long(64), "+" }, Fault{}},
		{"lazy and var", func(l []api.Local) { l[2].Flags = api.Lazy | api.Var }, at(api.ErrInvalid)},
		{"all but lazy", func(l []api.Local) { l[2].Flags = api.Var | api.Given | api.Using | api.Synthetic }, Fault{}},
		{"all but var", func(l []api.Local) { l[2].Flags = api.Lazy | api.Given | api.Using | api.Synthetic }, Fault{}},
		{"a parameter with using", func(l []api.Local) { l[1].Flags = api.Using | api.Synthetic }, Fault{}},
		{"a parameter with var", func(l []api.Local) { l[1].Flags = api.Var }, at(api.ErrInvalid)},
		{"a given parameter", func(l []api.Local) { l[0].Flags = api.Given }, at(api.ErrInvalid)},
		{"a lazy parameter", func(l []api.Local) { l[0].Flags = api.Lazy }, at(api.ErrInvalid)},
		{"flags in front of a name", func(l []api.Local) { l[0].Flags, l[1].Name = api.Var, "" }, at(api.ErrInvalid)},
		{"a name in front of flags", func(l []api.Local) { l[0].Name, l[1].Flags = "", api.Var }, at(api.ErrName)},
		{"a name and flags", func(l []api.Local) { l[1].Name, l[1].Flags = "", api.Var }, at(api.ErrName)},
		{"parameters of one name", func(l []api.Local) { l[1].Name = l[0].Name }, at(api.ErrTwice)},
		{"a parameter and a local of one name", func(l []api.Local) { l[2].Name = l[0].Name }, Fault{}},
		{"locals of one name", func(l []api.Local) { l[2].Name = l[3].Name }, Fault{}},
		{"one name and wrong flags behind", func(l []api.Local) { l[1].Name, l[3].Flags = l[0].Name, api.Final }, at(api.ErrInvalid)},
	} {
		m := newMaker()
		m.method(-1, "f", 0, "a", "b")
		m.local(0, "c", 0)
		m.local(0, "d", 0)
		c.do(m.p.Methods[0].Locals)
		wantFault(t, c.what, m.p, c.want)
	}
}

// P6.1: rule 7, fields.
func TestFields(t *testing.T) {
	at := func(index int, code api.Errno) Fault { return Fault{PField, index, code} }
	set := func(index int, do func(f *api.Field)) func(p *api.Program) {
		return func(p *api.Program) { do(&p.Fields[index]) }
	}
	flags := func(index, flags int) func(p *api.Program) {
		return set(index, func(f *api.Field) { f.Flags = flags })
	}
	orphan := func(owner int) func(p *api.Program) {
		return func(p *api.Program) {
			p.Fields[homeV].Owner = owner
			p.Classes[home].Fields = nil
		}
	}
	wantChanges(t, []change{
		{"no name", set(leafY, func(f *api.Field) { f.Name = "" }), at(leafY, api.ErrName)},
		{"a wrong name", set(leafY, func(f *api.Field) { f.Name = "\xe4" }), at(leafY, api.ErrName)},
		{"lazy and var", flags(leafY, api.Lazy|api.Var), at(leafY, api.ErrInvalid)},
		{"volatile", flags(leafY, api.Volatile), at(leafY, api.ErrInvalid)},
		{"volatile and lazy", flags(leafY, api.Volatile|api.Lazy), at(leafY, api.ErrInvalid)},
		{"all but lazy", flags(leafY, api.Final|api.Private|api.Override|api.Var|api.Volatile|api.Given|api.Synthetic), Fault{}},
		{"all but var", flags(leafY, api.Final|api.Private|api.Override|api.Lazy|api.Given|api.Synthetic), Fault{}},
		{"the owner -1", orphan(-1), at(homeV, api.ErrRange)},
		{"an owner behind the classes", orphan(9), at(homeV, api.ErrRange)},
		{"not in the list of its owner", orphan(home), at(homeV, api.ErrNoEntry)},
		{"not in the list of another owner", orphan(tr), at(homeV, api.ErrNoEntry)},
		{"a lazy parameter", flags(leafX, api.Lazy), at(leafX, api.ErrInvalid)},
		{"a parameter with var", flags(leafX, api.Var), Fault{}},
	})
}

// P6.1: rule 7, type parameters.
func TestTypeParams(t *testing.T) {
	at := func(index int, code api.Errno) Fault { return Fault{PTParam, index, code} }
	set := func(index int, do func(x *api.TypeParam)) func(p *api.Program) {
		return func(p *api.Program) { do(&p.TParams[index]) }
	}
	orphan := func(class, method, variance int) func(p *api.Program) {
		return func(p *api.Program) {
			p.Methods[fun].TParams = nil
			p.TParams[funD].Class, p.TParams[funD].Method, p.TParams[funD].Variance = class, method, variance
		}
	}
	wantChanges(t, []change{
		{"no name", set(trB, func(x *api.TypeParam) { x.Name = "" }), at(trB, api.ErrName)},
		{"variance -2", set(trB, func(x *api.TypeParam) { x.Variance = -2 }), at(trB, api.ErrRange)},
		{"variance 2", set(trB, func(x *api.TypeParam) { x.Variance = 2 }), at(trB, api.ErrRange)},
		{"variance 2 of a method", set(funD, func(x *api.TypeParam) { x.Variance = 2 }), at(funD, api.ErrRange)},
		{"arity -1", set(trB, func(x *api.TypeParam) { x.Arity = -1 }), at(trB, api.ErrRange)},
		{"arity 12", set(trB, func(x *api.TypeParam) { x.Arity = 12 }), Fault{}},
		{"arity 13", set(trB, func(x *api.TypeParam) { x.Arity = 13 }), at(trB, api.ErrRange)},
		{"no class and no method", orphan(-1, -1, 0), at(funD, api.ErrRange)},
		{"a class and a method", orphan(tr, fun, 0), at(funD, api.ErrRange)},
		{"a class and the method -2", orphan(tr, -2, 0), at(funD, api.ErrRange)},
		{"a method and the class -2", orphan(-2, fun, 0), at(funD, api.ErrRange)},
		{"a class behind the classes", orphan(9, -1, 0), at(funD, api.ErrRange)},
		{"a method behind the methods", orphan(-1, 6, 0), at(funD, api.ErrRange)},
		{"not in the list of its class", orphan(tr, -1, 1), at(funD, api.ErrNoEntry)},
		{"not in the list of its method", orphan(-1, fun, 0), at(funD, api.ErrNoEntry)},
		{"not in the list of its method, covariant", orphan(-1, fun, 1), at(funD, api.ErrNoEntry)},
		{"covariant, of a method", set(funD, func(x *api.TypeParam) { x.Variance = 1 }), at(funD, api.ErrVariance)},
		{"contravariant, of a method", set(funD, func(x *api.TypeParam) { x.Variance = -1 }), at(funD, api.ErrVariance)},
		{"invariant, of a class", set(trB, func(x *api.TypeParam) { x.Variance = 0 }), Fault{}},
	})
}

// P6.1: rule 7, type members.
func TestTypeMembers(t *testing.T) {
	at := func(index int, code api.Errno) Fault { return Fault{PTypeMember, index, code} }
	set := func(do func(x *api.TypeMember)) func(p *api.Program) {
		return func(p *api.Program) { do(&p.Types[trU]) }
	}
	orphan := func(owner int) func(p *api.Program) {
		return func(p *api.Program) {
			p.Types[trU].Owner = owner
			p.Classes[tr].Types = nil
		}
	}
	wantChanges(t, []change{
		{"no name", set(func(x *api.TypeMember) { x.Name = "" }), at(trU, api.ErrName)},
		{"arity -1", set(func(x *api.TypeMember) { x.Arity = -1 }), at(trU, api.ErrRange)},
		{"arity 12", set(func(x *api.TypeMember) { x.Arity = 12 }), Fault{}},
		{"arity 13", set(func(x *api.TypeMember) { x.Arity = 13 }), at(trU, api.ErrRange)},
		{"the owner -1", orphan(-1), at(trU, api.ErrRange)},
		{"an owner behind the classes", orphan(9), at(trU, api.ErrRange)},
		{"not in the list of its owner", orphan(tr), at(trU, api.ErrNoEntry)},
	})
}

// P6.1: rule 8.
func TestTwice(t *testing.T) {
	wantChanges(t, []change{
		{"two classes", func(p *api.Program) { p.Classes[val].Name = "Base" }, Fault{PClass, val, api.ErrTwice}},
		{"a class and a trait", func(p *api.Program) { p.Classes[tr].Name = "Base" }, Fault{PClass, tr, api.ErrTwice}},
		{"a class and an object", func(p *api.Program) { p.Classes[home].Name = "Base" }, Fault{}},
		{"two objects", func(p *api.Program) { p.Classes[home].Name = "Leaf" }, Fault{PClass, home, api.ErrTwice}},
		{"a class inside of another one", func(p *api.Program) { p.Classes[inner].Name = "Base" }, Fault{}},
		{"classes in one class", func(p *api.Program) {
			p.Classes[val].Owner, p.Classes[far].Owner = comp, comp
			p.Classes[val].Name, p.Classes[far].Name = "In", "In"
		}, Fault{PClass, val, api.ErrTwice}},
		{"two fields", func(p *api.Program) { p.Fields[leafY].Name = "x" }, Fault{PField, leafY, api.ErrTwice}},
		{"a method and a field", func(p *api.Program) { p.Methods[leafM].Name = "x" }, Fault{PMethod, leafM, api.ErrTwice}},
		{"a method and a field of another class", func(p *api.Program) { p.Methods[leafM].Name = "v" }, Fault{}},
		{"a function and fields", func(p *api.Program) { p.Methods[fun].Name = "x" }, Fault{}},
		{"two methods", func(p *api.Program) { p.Methods[baseN].Name = "m" }, Fault{}},
		{"two types", func(p *api.Program) { p.Types[baseV].Name = "T" }, Fault{PTypeMember, baseV, api.ErrTwice}},
		{"a type and a field", func(p *api.Program) { p.Types[baseV].Name = "x" }, Fault{}},
		{"two type parameters of a class", func(p *api.Program) {
			m := &maker{*p}
			m.classParam(val, "A", 0)
			m.classParam(val, "A", 0)
			*p = m.p
		}, Fault{PTParam, 5, api.ErrTwice}},
		{"two type parameters of a method", func(p *api.Program) {
			m := &maker{*p}
			m.methodParam(fun, "D")
			*p = m.p
		}, Fault{PTParam, 4, api.ErrTwice}},
		{"two type parameters in another order", func(p *api.Program) {
			m := &maker{*p}
			m.methodParam(fun, "D")
			m.p.Methods[fun].TParams = []int{4, funD}
			*p = m.p
		}, Fault{PTParam, 4, api.ErrTwice}},
		{"type parameters of a class and its method", func(p *api.Program) { p.TParams[baseNC].Name = "A" }, Fault{}},
	})
}

// P6.1: rule 9.
func TestMain(t *testing.T) {
	owner := func(class int) func(p *api.Program) {
		return func(p *api.Program) {
			p.Methods[run].Owner = class
			p.Classes[home].Methods = nil
			p.Classes[class].Methods = append(p.Classes[class].Methods, run)
		}
	}
	at := func(index int, code api.Errno) Fault { return Fault{PMain, index, code} }
	main := func(index int) func(p *api.Program) { return func(p *api.Program) { p.Main = index } }
	wantChanges(t, []change{
		{"none", main(-1), Fault{}},
		{"-2", main(-2), at(-2, api.ErrRange)},
		{"behind the methods", main(6), at(6, api.ErrRange)},
		{"with a parameter", main(fun), at(fun, api.ErrInvalid)},
		{"a function", func(p *api.Program) {
			p.Main = fun
			p.Methods[fun].TParams, p.Methods[fun].Params, p.TParams = nil, 0, p.TParams[:funD]
		}, Fault{}},
		{"with a type parameter", func(p *api.Program) { p.Main, p.Methods[fun].Params = fun, 0 }, at(fun, api.ErrInvalid)},
		{"abstract", main(trM), at(trM, api.ErrInvalid)},
		{"in a class", main(leafM), at(leafM, api.ErrInvalid)},
		{"in an object", owner(comp), Fault{}},
		{"in a trait", owner(tr), at(run, api.ErrInvalid)},
		{"in an object in a class", owner(deep), at(run, api.ErrInvalid)},
		{"in an object in an object", func(p *api.Program) { p.Classes[home].Owner = comp }, at(run, api.ErrInvalid)},
		{"with locals", func(p *api.Program) { p.Methods[run].Locals = []api.Local{{Name: "x"}} }, Fault{}},
	})
}

// P6.1: of several faults, the first one in the order of the rules and items.
func TestOrder(t *testing.T) {
	p := sample()
	for _, c := range []change{
		{"Main", func(p *api.Program) { p.Main = fun }, Fault{PMain, fun, api.ErrInvalid}},
		{"two type parameters", func(p *api.Program) { m := &maker{*p}; m.methodParam(fun, "D"); *p = m.p }, Fault{PTParam, 4, api.ErrTwice}},
		{"two types", func(p *api.Program) { p.Types[baseV].Name = "T" }, Fault{PTypeMember, baseV, api.ErrTwice}},
		{"a method and a field", func(p *api.Program) { p.Methods[leafM].Name = "x" }, Fault{PMethod, leafM, api.ErrTwice}},
		{"two fields", func(p *api.Program) { p.Fields[leafY].Name = "x" }, Fault{PField, leafY, api.ErrTwice}},
		{"two classes", func(p *api.Program) { p.Classes[val].Name = "Base" }, Fault{PClass, val, api.ErrTwice}},
		{"two classes earlier", func(p *api.Program) { p.Classes[tr].Name = "Base" }, Fault{PClass, tr, api.ErrTwice}},
		{"an arity of a type", func(p *api.Program) { p.Types[trU].Arity = 13 }, Fault{PTypeMember, trU, api.ErrRange}},
		{"a variance", func(p *api.Program) { p.TParams[funD].Variance = 1 }, Fault{PTParam, funD, api.ErrVariance}},
		{"a lazy parameter", func(p *api.Program) { p.Fields[leafX].Flags = api.Lazy }, Fault{PField, leafX, api.ErrInvalid}},
		{"a function with override", func(p *api.Program) { p.Methods[fun].Flags = api.Override }, Fault{PMethod, fun, api.ErrInvalid}},
		{"a method with a wrong flag", func(p *api.Program) { p.Methods[run].Flags = api.Var }, Fault{PMethod, run, api.ErrInvalid}},
		{"a method without name", func(p *api.Program) { p.Methods[run].Name = "" }, Fault{PMethod, run, api.ErrName}},
		{"a case class of a case class", func(p *api.Program) {
			p.Classes[base].Flags = api.Case | api.Abstract
			p.Classes[leaf].Parents[0] = of(far)
		}, Fault{PClass, leaf, api.ErrInvalid}},
		{"no parents", func(p *api.Program) { p.Classes[home].Parents = nil }, Fault{PClass, home, api.ErrEmpty}},
		{"a wrong parent earlier", func(p *api.Program) { p.Classes[deep].Parents[1] = top }, Fault{PClass, deep, api.ErrKind}},
		{"inside of itself", func(p *api.Program) { p.Classes[comp].Owner = inner }, Fault{PClass, comp, api.ErrCycle}},
		{"a wrong value class", func(p *api.Program) { p.Classes[val].Params = nil }, Fault{PClass, val, api.ErrInvalid}},
		{"a list", func(p *api.Program) { p.Classes[val].Types = []int{0, 0} }, Fault{PClass, val, api.ErrTwice}},
		{"an index", func(p *api.Program) { p.Classes[val].Methods = []int{-1} }, Fault{PClass, val, api.ErrRange}},
		{"a flag", func(p *api.Program) { p.Classes[val].Flags = -1 }, Fault{PClass, val, api.ErrInvalid}},
		{"a kind", func(p *api.Program) { p.Classes[val].Kind = 7 }, Fault{PClass, val, api.ErrKind}},
		{"a name", func(p *api.Program) { p.Classes[val].Name = "" }, Fault{PClass, val, api.ErrName}},
		{"an earlier class", func(p *api.Program) { p.Classes[base].TParams = []int{baseA, baseA} }, Fault{PClass, base, api.ErrTwice}},
		{"too many types", func(p *api.Program) { p.Types = make([]api.TypeMember, 501) }, Fault{0, 0, api.ErrLimit}},
	} {
		c.do(&p)
		wantFault(t, c.what, p, c.want)
	}
}
