package symbols

import (
	"slices"
	"strings"
	"testing"

	"newel/api"
)

// dice are numbers that look random and are the same in each run.
type dice uint64

// roll returns a number from 0 to n - 1.
func (d *dice) roll(n int) int {
	*d = *d*6364136223846793005 + 1442695040888963407
	return int(uint64(*d)>>33) % n
}

func (d *dice) pick(words ...string) string { return words[d.roll(len(words))] }

// one reports whether a roll of n is 0.
func (d *dice) one(n int) bool { return d.roll(n) == 0 }

// maker puts items into a program, with all references between them.
type maker struct{ p api.Program }

func newMaker() *maker { return &maker{api.Program{Main: -1}} }

// of returns the parent that is a class.
func of(class int, args ...api.Type) api.Type {
	return api.Type{Kind: api.TClass, Sym: class, Args: args}
}

var top = api.Type{Kind: api.TAny}

func kindOf(kind int) api.Type { return api.Type{Kind: kind} }

func (m *maker) class(name string, kind, flags, owner int, parents ...api.Type) int {
	m.p.Classes = append(m.p.Classes, api.Class{Name: name, Kind: kind, Flags: flags, Owner: owner, Parents: parents})
	return len(m.p.Classes) - 1
}

func (m *maker) field(owner int, name string, flags int) int {
	i := len(m.p.Fields)
	m.p.Fields = append(m.p.Fields, api.Field{Name: name, Owner: owner, Flags: flags, Type: kindOf(api.TInt)})
	m.p.Classes[owner].Fields = append(m.p.Classes[owner].Fields, i)
	return i
}

// param puts a field into a class that is a parameter of its constructor.
func (m *maker) param(owner int, name string, flags int) int {
	i := m.field(owner, name, flags)
	m.p.Classes[owner].Params = append(m.p.Classes[owner].Params, i)
	return i
}

// method puts a method into a class, or a function into the program (-1); all
// its locals are parameters.
func (m *maker) method(owner int, name string, flags int, params ...string) int {
	i := len(m.p.Methods)
	x := api.Method{Name: name, Owner: owner, Flags: flags, Params: len(params), Result: kindOf(api.TInt)}
	if flags&api.Abstract == 0 {
		x.Body = &api.Tree{}
	}
	for _, s := range params {
		x.Locals = append(x.Locals, api.Local{Name: s})
	}
	m.p.Methods = append(m.p.Methods, x)
	if owner >= 0 {
		m.p.Classes[owner].Methods = append(m.p.Classes[owner].Methods, i)
	}
	return i
}

func (m *maker) local(method int, name string, flags int) {
	x := &m.p.Methods[method]
	x.Locals = append(x.Locals, api.Local{Name: name, Flags: flags})
}

func (m *maker) classParam(class int, name string, variance int) int {
	i := len(m.p.TParams)
	m.p.TParams = append(m.p.TParams, api.TypeParam{Name: name, Class: class, Method: -1, Variance: variance})
	m.p.Classes[class].TParams = append(m.p.Classes[class].TParams, i)
	return i
}

func (m *maker) methodParam(method int, name string) int {
	i := len(m.p.TParams)
	m.p.TParams = append(m.p.TParams, api.TypeParam{Name: name, Class: -1, Method: method})
	m.p.Methods[method].TParams = append(m.p.Methods[method].TParams, i)
	return i
}

func (m *maker) member(owner int, name string) int {
	i := len(m.p.Types)
	m.p.Types = append(m.p.Types, api.TypeMember{Name: name, Owner: owner})
	m.p.Classes[owner].Types = append(m.p.Classes[owner].Types, i)
	return i
}

// The items of sample.
const (
	base  = iota // an abstract class
	tr           // a trait
	leaf         // a final case class
	comp         // its companion
	inner        // a class in the companion
	deep         // an object in inner
	val          // a value class
	home         // the object of main
	far          // a class that extends base
)

const (
	baseM = iota // abstract
	baseN        // with two parameters, a local and a type parameter
	trM          // abstract
	leafM        // overrides
	run          // the main method
	fun          // a function
)

const (
	baseX = iota // the parameter of base
	leafX        // the parameter of leaf
	leafY        // another field
	valX         // the parameter of val
	homeV        // a field of home
)

const (
	baseA  = iota // of base
	trB           // of tr
	baseNC        // of baseN
	funD          // of fun
)

const (
	baseT = iota
	trU
	baseV
)

// sample returns a right program with everything in it.
func sample() api.Program {
	m := newMaker()
	m.class("Base", api.IsClass, api.Abstract|api.Sealed, -1, top)
	m.class("Tr", api.IsTrait, 0, -1, top)
	m.class("Leaf", api.IsClass, api.Final|api.Case, -1, of(base, kindOf(api.TInt)), of(tr, kindOf(api.TInt)))
	m.class("Leaf", api.IsObject, 0, -1, top)
	m.class("In", api.IsClass, 0, comp, top)
	m.class("Deep", api.IsObject, api.Case, inner, top, of(tr, kindOf(api.TInt)))
	m.class("Val", api.IsClass, api.Final|api.Value, -1, top)
	m.class("Home", api.IsObject, 0, -1, top)
	m.class("Far", api.IsClass, api.Private, -1, of(base, kindOf(api.TInt)))
	m.method(base, "m", api.Abstract)
	m.method(base, "n", 0, "a", "b")
	m.local(baseN, "c", api.Var)
	m.method(tr, "m", api.Abstract)
	m.method(leaf, "m", api.Override)
	m.p.Main = m.method(home, "main", 0)
	m.method(-1, "f", api.Inline, "s")
	m.param(base, "x", 0)
	m.param(leaf, "x", api.Override)
	m.field(leaf, "y", api.Lazy)
	m.param(val, "v", 0)
	m.field(home, "v", api.Var|api.Volatile)
	m.classParam(base, "A", api.Covariant)
	m.classParam(tr, "A", api.Contravariant)
	m.methodParam(baseN, "A")
	m.methodParam(fun, "D")
	m.member(base, "T")
	m.member(tr, "T")
	m.member(base, "V")
	return m.p
}

func wantFault(t *testing.T, what string, p api.Program, want Fault) {
	t.Helper()
	if got := Check(p); got != want {
		t.Errorf("%s: Check = %v, want %v", what, got, want)
	}
}

func wantList(t *testing.T, what string, got []int, want ...int) {
	t.Helper()
	if !slices.Equal(got, want) {
		t.Errorf("%s = %v, want %v", what, got, want)
	}
}

// long returns a name of n bytes.
func long(n int) string { return strings.Repeat("n", n) }

// copied returns a program that shares no list with the one it is made of.
func copied(p api.Program) api.Program {
	p.Classes = slices.Clone(p.Classes)
	for i := range p.Classes {
		k := &p.Classes[i]
		k.TParams = slices.Clone(k.TParams)
		k.Parents = slices.Clone(k.Parents)
		k.Params = slices.Clone(k.Params)
		k.Fields = slices.Clone(k.Fields)
		k.Methods = slices.Clone(k.Methods)
		k.Types = slices.Clone(k.Types)
	}
	p.Methods = slices.Clone(p.Methods)
	for i := range p.Methods {
		m := &p.Methods[i]
		m.TParams = slices.Clone(m.TParams)
		m.Locals = slices.Clone(m.Locals)
	}
	p.Fields = slices.Clone(p.Fields)
	p.TParams = slices.Clone(p.TParams)
	p.Types = slices.Clone(p.Types)
	return p
}
