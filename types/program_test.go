package types

import (
	"slices"
	"testing"

	"newel/api"
	"newel/symbols"
)

// copied returns a program whose tables can be changed.
func copied(p api.Program) api.Program {
	p.Classes = slices.Clone(p.Classes)
	for i := range p.Classes {
		p.Classes[i].Parents = slices.Clone(p.Classes[i].Parents)
	}
	p.Methods = slices.Clone(p.Methods)
	for i := range p.Methods {
		p.Methods[i].Locals = slices.Clone(p.Methods[i].Locals)
	}
	p.Fields = slices.Clone(p.Fields)
	p.TParams = slices.Clone(p.TParams)
	p.Types = slices.Clone(p.Types)
	return p
}

// programCase is a change of the sample with the fault that it makes.
type programCase struct {
	what        string
	change      func(p *api.Program)
	part, index int
	code        api.Errno
}

func wantFaults(t *testing.T, cases []programCase) {
	t.Helper()
	for _, c := range cases {
		p := copied(sample().P)
		c.change(&p)
		want := symbols.Fault{Part: c.part, Index: c.index, Code: c.code}
		if c.code == api.OK {
			want = symbols.Fault{}
		}
		if got := CheckAll(p); got != want {
			t.Errorf("%s: CheckAll = %v, want %v", c.what, got, want)
		}
	}
}

// P7.1: the fault of symbols.Check is ahead of all others.
func TestCheckAllSymbols(t *testing.T) {
	wantFaults(t, []programCase{
		{"a class without a name", func(p *api.Program) {
			p.Classes[leaf].Name = ""
			p.Classes[leaf].Parents[0].Args[0] = node(99)
		}, symbols.PClass, leaf, api.ErrName},
		{"a main method with parameters", func(p *api.Program) {
			p.Main = free
			p.Fields[objF].Type = node(99)
		}, symbols.PMain, free, api.ErrInvalid},
	})
	if f := CheckAll(api.Program{Main: -1}); f != (symbols.Fault{}) {
		t.Errorf("CheckAll of an empty program: %v", f)
	}
	if f := CheckAll(api.Program{}); f != (symbols.Fault{Part: symbols.PMain, Code: api.ErrRange}) {
		t.Errorf("CheckAll of a program with a wrong Main: %v", f)
	}
}

// parentCase makes the last parent of In, a Pair of a type and Int, another one.
func parentCase(what string, first api.Type, code api.Errno) programCase {
	return programCase{what, func(p *api.Program) {
		p.Classes[in].Parents[1] = class(pair2, first, intT)
	}, symbols.PClass, in, code}
}

// P7.1: the parents of classes.
func TestCheckAllParents(t *testing.T) {
	wantFaults(t, []programCase{
		parentCase("a wrong kind", node(99), api.ErrKind),
		parentCase("a local of a method", local(0), api.ErrRange),
		parentCase("a type function as an argument", lambda(1, intT), api.ErrArity),
		parentCase("a wildcard", wild(nothingT, anyT), api.ErrInvalid),
		parentCase("a wildcard in an argument", class(box, wild(nothingT, anyT)), api.OK),
		parentCase("its own type parameter", param(inC), api.OK),
		parentCase("another type parameter", param(boxA), api.ErrInvalid),
		parentCase("a type parameter of its own method", param(runM), api.ErrInvalid),
		parentCase("an object around it", this(obj), api.OK),
		parentCase("itself", this(in), api.ErrInvalid),
		parentCase("itself further inside", fun(array(this(in)), intT), api.ErrInvalid),
		parentCase("another object", this(boxOb), api.ErrInvalid),
		parentCase("an object in it", this(deep), api.ErrInvalid),
		parentCase("a type variable", variable(1), api.ErrInvalid),
		parentCase("a bound variable", apply(lambda(1, bound(0, 0)), intT), api.OK),
		{"the type parameter of the class around a class", func(p *api.Program) {
			p.Classes[plus].Parents[0] = class(box, param(inC))
		}, symbols.PClass, plus, api.ErrInvalid},
		{"this of a class around a class", func(p *api.Program) {
			p.Classes[plus].Parents[0] = class(box, this(in))
		}, symbols.PClass, plus, api.ErrInvalid},
		{"this of an object around a class", func(p *api.Program) {
			p.Classes[plus].Parents[0] = class(box, this(deep))
		}, symbols.PClass, plus, api.OK},
		{"this of an object further out", func(p *api.Program) {
			p.Classes[plus].Parents[0] = class(box, this(obj))
		}, symbols.PClass, plus, api.OK},
		{"this of an object in its own parent", func(p *api.Program) {
			p.Classes[boxOb].Parents[0] = class(box, this(boxOb))
		}, symbols.PClass, boxOb, api.ErrInvalid},
		{"the first parent ahead of the second one", func(p *api.Program) {
			p.Classes[in].Parents[0] = class(box, variable(1))
			p.Classes[in].Parents[1] = class(pair2, node(99), intT)
		}, symbols.PClass, in, api.ErrInvalid},
		{"a wrong parent behind a right one", func(p *api.Program) {
			p.Classes[in].Parents[1] = api.Type{Kind: api.TClass, Sym: pair2, Num: 1, Args: []api.Type{intT, intT}}
		}, symbols.PClass, in, api.ErrForm},
		{"an error of Check ahead of a wildcard", func(p *api.Program) {
			p.Classes[in].Parents[1] = class(pair2, wild(intT, intT), node(99))
		}, symbols.PClass, in, api.ErrKind},
		{"a parent that is too large", func(p *api.Program) {
			p.Classes[leaf].Parents[0] = class(box, wide(MaxSize))
		}, symbols.PClass, leaf, api.ErrLimit},
		{"a first parent with a name", func(p *api.Program) {
			p.Classes[obj].Parents[0] = api.Type{Kind: api.TAny, Name: "A"}
		}, symbols.PClass, obj, api.ErrForm},
	})
}

// fieldCase makes the type of the field *: of In another one.
func fieldCase(what string, x api.Type, code api.Errno) programCase {
	return programCase{what, func(p *api.Program) { p.Fields[inOp].Type = x }, symbols.PField, inOp, code}
}

// P7.1: the types of fields, and the scope of a class.
func TestCheckAllFields(t *testing.T) {
	wantFaults(t, []programCase{
		fieldCase("a wrong kind", node(99), api.ErrKind),
		fieldCase("a local", local(0), api.ErrRange),
		fieldCase("a lambda", lambda(1, intT), api.ErrArity),
		fieldCase("a type function", member(objU, this(obj)), api.ErrArity),
		fieldCase("a type function out of scope", param(higherF), api.ErrArity),
		fieldCase("by name", byName(intT), api.ErrInvalid),
		fieldCase("repeated", repeat(intT), api.ErrInvalid),
		fieldCase("a function by name", fun(byName(intT), intT), api.OK),
		fieldCase("its class's type parameter", param(inC), api.OK),
		fieldCase("another class's type parameter", param(boxA), api.ErrInvalid),
		fieldCase("a method's type parameter", param(runM), api.ErrInvalid),
		fieldCase("a function's type parameter", param(freeX), api.ErrInvalid),
		fieldCase("this", this(in), api.OK),
		fieldCase("this of an object around it", this(obj), api.OK),
		fieldCase("this of another object", this(boxOb), api.ErrInvalid),
		fieldCase("this of an object in it", this(deep), api.ErrInvalid),
		fieldCase("this of another class", this(box), api.ErrInvalid),
		fieldCase("a type variable", variable(0), api.ErrInvalid),
		fieldCase("a prefix out of scope", member(boxT, field(objF, this(boxOb))), api.ErrInvalid),
		fieldCase("a type parameter in the last place", match(0, intT, intT, class(box, param(pairA))), api.ErrInvalid),
	})
}

// P7.1: the bounds of type parameters and type members.
func TestCheckAllBounds(t *testing.T) {
	f := lambda(1, bound(0, 0))
	set := func(kind, index int, lo, hi api.Type) func(p *api.Program) {
		return func(p *api.Program) {
			if kind == symbols.PTParam {
				p.TParams[index].Lo, p.TParams[index].Hi = lo, hi
			} else {
				p.Types[index].Lo, p.Types[index].Hi = lo, hi
			}
		}
	}
	of := func(what string, part, index int, lo, hi api.Type, code api.Errno) programCase {
		return programCase{what, set(part, index, lo, hi), part, index, code}
	}
	var cases []programCase
	for _, part := range []int{symbols.PTParam, symbols.PTypeMember} {
		proper, higher := inC, higherF
		if part == symbols.PTypeMember {
			proper, higher = inV, objU
		}
		own := map[int]api.Type{symbols.PTParam: param(inC), symbols.PTypeMember: param(inC)}[part]
		cases = append(cases,
			of("a wrong lower bound", part, proper, node(99), anyT, api.ErrKind),
			of("a wrong upper bound", part, proper, nothingT, node(99), api.ErrKind),
			of("the lower bound ahead of the upper one", part, proper, f, node(99), api.ErrArity),
			of("a local in a lower bound", part, proper, local(0), anyT, api.ErrRange),
			of("a local in an upper bound", part, proper, nothingT, local(0), api.ErrRange),
			of("a type function as a lower bound", part, proper, f, anyT, api.ErrArity),
			of("a type function as an upper bound", part, proper, nothingT, f, api.ErrArity),
			of("a type as a lower bound of a type function", part, higher, anyT, anyT, api.ErrArity),
			of("a type as an upper bound of a type function", part, higher, nothingT, nothingT, api.ErrArity),
			of("another type function as an upper bound", part, higher, nothingT, lambda(2, intT), api.ErrArity),
			of("another type function as a lower bound", part, higher, lambda(2, intT), anyT, api.ErrArity),
			of("type functions as bounds", part, higher, f, f, api.OK),
			of("Nothing and Any as bounds of a type function", part, higher, nothingT, anyT, api.OK),
			of("a lower bound by name", part, proper, byName(intT), anyT, api.ErrInvalid),
			of("a repeated upper bound", part, proper, nothingT, repeat(intT), api.ErrInvalid),
			of("a lower bound in scope", part, proper, and(own, this(in), this(obj)), anyT, api.OK),
			of("an upper bound in scope", part, proper, nothingT, and(own, this(in), this(obj)), api.OK),
			of("a lower bound out of scope", part, proper, param(boxA), anyT, api.ErrInvalid),
			of("an upper bound out of scope", part, proper, nothingT, this(boxOb), api.ErrInvalid),
			of("a type variable", part, proper, nothingT, variable(0), api.ErrInvalid),
			of("a type parameter of a method", part, proper, nothingT, param(runM), api.ErrInvalid),
		)
	}
	wantFaults(t, append(cases,
		of("its class and its method", symbols.PTParam, runM, and(param(runM), param(inC), this(in)), and(param(runM), this(obj)), api.OK),
		of("the bound of a method's parameter that is a local", symbols.PTParam, runM, nothingT, local(runX), api.ErrRange),
		of("another method's parameter", symbols.PTParam, runM, nothingT, param(freeX), api.ErrInvalid),
		of("the parameter of another class", symbols.PTParam, runM, nothingT, param(boxA), api.ErrInvalid),
		of("an object that is not around the method", symbols.PTParam, runM, nothingT, this(deep), api.ErrInvalid),
		of("the function's own parameter", symbols.PTParam, freeX, param(freeX), anyT, api.OK),
		of("a class's parameter in a function", symbols.PTParam, freeX, nothingT, param(boxA), api.ErrInvalid),
		of("this in a function", symbols.PTParam, freeX, nothingT, this(obj), api.ErrInvalid),
	))
}

// localCase makes the type of a local of run another one.
func localCase(what string, index int, x api.Type, code api.Errno) programCase {
	return programCase{what, func(p *api.Program) { p.Methods[run].Locals[index].Type = x }, symbols.PMethod, run, code}
}

// resultCase makes the Result of run another one.
func resultCase(what string, x api.Type, code api.Errno) programCase {
	return programCase{what, func(p *api.Program) { p.Methods[run].Result = x }, symbols.PMethod, run, code}
}

// P7.1: the types of the locals and of the result of methods.
func TestCheckAllMethods(t *testing.T) {
	f := lambda(1, bound(0, 0))
	wantFaults(t, []programCase{
		localCase("a wrong parameter", runX, node(99), api.ErrKind),
		localCase("a wrong local", runZ, node(99), api.ErrKind),
		resultCase("a wrong result", node(99), api.ErrKind),
		localCase("a parameter that is a type function", runX, f, api.ErrArity),
		localCase("a local that is a type function", runLazy, param(runG), api.ErrArity),
		resultCase("a result that is a type function", f, api.ErrArity),
		localCase("a parameter by name", runX, byName(intT), api.OK),
		localCase("the last parameter by name", runY, byName(intT), api.OK),
		localCase("a Using parameter by name", runU, byName(intT), api.OK),
		localCase("a local by name", runZ, byName(intT), api.ErrInvalid),
		localCase("the last local by name", runLazy, byName(intT), api.ErrInvalid),
		resultCase("a result by name", byName(intT), api.ErrInvalid),
		localCase("a repeated parameter in front of another one", runX, repeat(intT), api.ErrInvalid),
		localCase("a repeated parameter in front of Using ones", runY, repeat(intT), api.OK),
		localCase("a repeated Using parameter", runU, repeat(intT), api.ErrInvalid),
		localCase("a repeated local", runZ, repeat(intT), api.ErrInvalid),
		localCase("a repeated last local", runLazy, repeat(intT), api.ErrInvalid),
		resultCase("a repeated result", repeat(intT), api.ErrInvalid),
		{"a repeated parameter, all of them Using", func(p *api.Program) {
			for i := range runZ {
				p.Methods[run].Locals[i].Flags = api.Using
				p.Methods[run].Locals[i].Type = intT
			}
			p.Methods[run].Locals[runU].Type = repeat(intT)
		}, symbols.PMethod, run, api.ErrInvalid},
		{"a repeated parameter behind Using ones", func(p *api.Program) {
			for i := range runZ {
				p.Methods[run].Locals[i].Flags = api.Using
				p.Methods[run].Locals[i].Type = intT
			}
			p.Methods[run].Locals[runU].Flags = 0
			p.Methods[run].Locals[runU].Type = repeat(intT)
		}, symbols.PMethod, run, api.OK},
		{"the first local ahead of the second one", func(p *api.Program) {
			p.Methods[run].Locals[runX].Type = repeat(intT)
			p.Methods[run].Locals[runY].Type = node(99)
		}, symbols.PMethod, run, api.ErrInvalid},
		{"a local ahead of the result", func(p *api.Program) {
			p.Methods[run].Locals[runLazy].Type = repeat(intT)
			p.Methods[run].Result = node(99)
		}, symbols.PMethod, run, api.ErrInvalid},
		{"no locals", func(p *api.Program) {
			p.Methods[plusM].Locals = nil
			p.Methods[plusM].Params = 0
			p.Methods[plusM].Result = local(0)
		}, symbols.PMethod, plusM, api.ErrRange},
		{"a function's repeated parameter", func(p *api.Program) {
			p.Methods[free].Locals[0].Type = repeat(this(obj))
		}, symbols.PMethod, free, api.ErrInvalid},
	})
}

// P7.1: the scope of methods.
func TestCheckAllMethodScope(t *testing.T) {
	var cases []programCase
	for _, x := range []struct {
		what          string
		t             api.Type
		outer, inside api.Errno // of a parameter and the result, and of another local
	}{
		{"the type parameter of the class", param(inC), api.OK, api.OK},
		{"the type parameter of the method", array(param(runM)), api.OK, api.OK},
		{"the type parameter of a function", param(freeX), api.ErrInvalid, api.ErrInvalid},
		{"the type parameter of another class", param(boxA), api.ErrInvalid, api.ErrInvalid},
		{"this", this(in), api.OK, api.OK},
		{"an object around it", this(obj), api.OK, api.OK},
		{"another object", this(boxOb), api.ErrInvalid, api.ErrInvalid},
		{"an object in its class", this(deep), api.ErrInvalid, api.ErrInvalid},
		{"the first parameter", local(runX), api.OK, api.OK},
		{"the last parameter", local(runU), api.OK, api.OK},
		{"another local", local(runZ), api.ErrInvalid, api.OK},
		{"a local with Var", local(runVar), api.ErrInvalid, api.ErrInvalid},
		{"no local", local(runLazy + 1), api.ErrRange, api.ErrRange},
		{"a type variable", variable(1), api.ErrInvalid, api.ErrInvalid},
	} {
		cases = append(cases,
			localCase(x.what+" in a parameter", runX, x.t, x.outer),
			localCase(x.what+" in the last parameter", runU, x.t, x.outer),
			localCase(x.what+" in a local", runZ, x.t, x.inside),
			localCase(x.what+" in the last local", runLazy, x.t, x.inside),
			resultCase(x.what+" in the result", x.t, x.outer),
		)
	}
	of := func(what string, local int, x api.Type, code api.Errno) programCase {
		return programCase{what, func(p *api.Program) {
			if local < 0 {
				p.Methods[plusM].Result = x
			} else {
				p.Methods[plusM].Locals[local].Type = x
			}
		}, symbols.PMethod, plusM, code}
	}
	for _, x := range []struct {
		what string
		t    api.Type
	}{{"the type parameter of a class around the owner", param(inC)}, {"this of a class around the owner", this(in)}} {
		cases = append(cases, of(x.what+" in a parameter", 0, x.t, api.ErrInvalid),
			of(x.what+" in a local", 1, x.t, api.OK), of(x.what+" in the result", -1, x.t, api.ErrInvalid))
	}
	wantFaults(t, append(cases,
		of("the innermost object around the owner", -1, this(deep), api.OK),
		of("the outermost object around the owner", 0, this(obj), api.OK),
		programCase{"this in a local of a function", func(p *api.Program) { p.Methods[free].Locals[1].Type = this(obj) }, symbols.PMethod, free, api.ErrInvalid},
		programCase{"this in the result of a function", func(p *api.Program) { p.Methods[free].Result = this(obj) }, symbols.PMethod, free, api.ErrInvalid},
	))
}

// P7.1: of several faults the first one by the parts and the indices.
func TestCheckAllOrder(t *testing.T) {
	spoil := []programCase{
		{"a parent", func(p *api.Program) { p.Classes[in].Parents[1] = class(pair2, variable(1), intT) }, symbols.PClass, in, api.ErrInvalid},
		{"a later parent", func(p *api.Program) { p.Classes[leaf].Parents[0] = class(box, node(99)) }, symbols.PClass, leaf, api.ErrKind},
		{"a field", func(p *api.Program) { p.Fields[objF].Type = byName(intT) }, symbols.PField, objF, api.ErrInvalid},
		{"a later field", func(p *api.Program) { p.Fields[inOp].Type = lambda(1, intT) }, symbols.PField, inOp, api.ErrArity},
		{"a type parameter", func(p *api.Program) { p.TParams[boxA].Hi = repeat(intT) }, symbols.PTParam, boxA, api.ErrInvalid},
		{"a later type parameter", func(p *api.Program) { p.TParams[freeX].Lo = node(99) }, symbols.PTParam, freeX, api.ErrKind},
		{"a type member", func(p *api.Program) { p.Types[boxT].Hi = variable(1) }, symbols.PTypeMember, boxT, api.ErrInvalid},
		{"a later type member", func(p *api.Program) { p.Types[inV].Lo = lambda(1, intT) }, symbols.PTypeMember, inV, api.ErrArity},
		{"a method", func(p *api.Program) { p.Methods[run].Result = variable(1) }, symbols.PMethod, run, api.ErrInvalid},
		{"a later method", func(p *api.Program) { p.Methods[plusM].Locals[0].Type = node(99) }, symbols.PMethod, plusM, api.ErrKind},
	}
	wantFaults(t, spoil)
	for i, first := range spoil {
		for _, second := range spoil[i+1:] {
			both := first
			both.what += " and " + second.what
			both.change = func(p *api.Program) {
				second.change(p)
				first.change(p)
			}
			wantFaults(t, []programCase{both})
		}
	}
}
