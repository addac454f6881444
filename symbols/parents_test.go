package symbols

import (
	"testing"

	"newel/api"
)

// P6.1: rule 4.
func TestParents(t *testing.T) {
	at := func(index int, code api.Errno) Fault { return Fault{PClass, index, code} }
	number := kindOf(api.TInt)
	parents := func(class int, list ...api.Type) func(p *api.Program) {
		return func(p *api.Program) { p.Classes[class].Parents = list }
	}
	flagged := func(class, flags, other, others int, list ...api.Type) func(p *api.Program) {
		return func(p *api.Program) {
			p.Classes[class].Flags = flags
			p.Classes[other].Flags = others
			p.Classes[class].Parents = list
		}
	}
	wantChanges(t, []change{
		{"none", parents(inner), at(inner, api.ErrEmpty)},
		{"no type", parents(inner, api.Type{}), at(inner, api.ErrKind)},
		{"an unknown kind", parents(inner, kindOf(-1)), at(inner, api.ErrKind)},
		{"a number", parents(inner, number), at(inner, api.ErrKind)},
		{"the kind behind TClass", parents(inner, kindOf(api.TParam)), at(inner, api.ErrKind)},
		{"TAny as the second one", parents(inner, top, top), at(inner, api.ErrKind)},
		{"a number as the second one", parents(inner, top, number), at(inner, api.ErrKind)},
		{"TAny with a Sym and an argument", parents(inner, api.Type{Kind: api.TAny, Sym: 99, Args: []api.Type{number}}), Fault{}},
		{"the class -1", parents(inner, of(-1)), at(inner, api.ErrRange)},
		{"the class 9", parents(inner, of(9)), at(inner, api.ErrRange)},
		{"the class 9 as the second one", parents(inner, top, of(9)), at(inner, api.ErrRange)},
		{"a trait as the first one", parents(inner, of(tr, number)), at(inner, api.ErrKind)},
		{"an object as the first one", parents(inner, of(comp)), at(inner, api.ErrKind)},
		{"a class as the first one of a trait", parents(tr, of(far)), at(tr, api.ErrKind)},
		{"a trait as the first one of a trait", parents(tr, of(tr, number)), at(tr, api.ErrKind)},
		{"the class 9 as the first one of a trait", parents(tr, of(9)), at(tr, api.ErrRange)},
		{"a class as the second one", parents(inner, top, of(far)), at(inner, api.ErrKind)},
		{"an object as the second one", parents(inner, top, of(comp)), at(inner, api.ErrKind)},
		{"a final class", parents(far, of(leaf)), at(far, api.ErrFinal)},
		{"a final class with arguments", parents(far, of(leaf, number)), at(far, api.ErrFinal)},
		{"too few arguments", parents(far, of(base)), at(far, api.ErrArity)},
		{"too many arguments", parents(far, of(base, number, number)), at(far, api.ErrArity)},
		{"no arguments for a trait", parents(far, top, of(tr)), at(far, api.ErrArity)},
		{"arguments for a class without TParams", parents(far, of(inner, number)), at(far, api.ErrArity)},
		{"a class in its companion", parents(far, of(inner)), Fault{}},
		{"a trait twice", parents(far, top, of(tr, number), of(tr, number)), at(far, api.ErrTwice)},
		{"a trait twice with other arguments", parents(far, top, of(tr, number), of(tr, top)), at(far, api.ErrTwice)},
		{"a trait twice without arguments", parents(far, top, of(tr, number), of(tr)), at(far, api.ErrArity)},
		{"the first error is that of the first parent", parents(far, of(base), number), at(far, api.ErrArity)},
		{"the first parent is right", parents(far, of(base, number), number), at(far, api.ErrKind)},
		{"a case class of a case class", flagged(far, api.Case, inner, api.Case, of(inner)), at(far, api.ErrInvalid)},
		{"a case class of a final case class", flagged(far, api.Case, inner, api.Case|api.Final, of(inner)), at(far, api.ErrFinal)},
		{"a case class of a case class with arguments", flagged(far, api.Case, inner, api.Case, of(inner, top)), at(far, api.ErrArity)},
		{"a case class of another class", flagged(far, api.Case, inner, 0, of(inner)), Fault{}},
		{"another class of a case class", flagged(far, 0, inner, api.Case, of(inner)), Fault{}},
		{"a value class of a class", parents(val, of(inner)), at(val, api.ErrInvalid)},
		{"a value class of a class with arguments", parents(val, of(inner, top)), at(val, api.ErrArity)},
		{"a value class of a trait", parents(val, of(tr, number)), at(val, api.ErrKind)},
		{"a value class with a trait", parents(val, top, of(tr, number)), Fault{}},
		{"a value class as a parent", func(p *api.Program) {
			p.Classes[val].Flags = api.Value
			p.Classes[far].Parents = []api.Type{of(val)}
		}, Fault{}},
		{"an object of a class and a trait", parents(home, of(inner), of(tr, number)), Fault{}},
		{"an object of a trait", parents(home, of(tr, number)), at(home, api.ErrKind)},
		{"an object of itself", parents(home, of(home)), at(home, api.ErrKind)},
		{"a trait of itself", parents(tr, top, of(tr, number)), at(tr, api.ErrCycle)},
	})
}

// P6.1: rule 4, exactly as many parents as are permitted, and one more.
func TestParentCount(t *testing.T) {
	m := newMaker()
	m.class("A", api.IsClass, 0, -1, top)
	for i := 1; i < api.MaxArgs; i++ {
		m.class(digitsOf(i), api.IsTrait, 0, -1, top)
		m.p.Classes[0].Parents = append(m.p.Classes[0].Parents, of(i))
	}
	wantFault(t, "12 parents", m.p, Fault{})
	m.class("Z", api.IsTrait, 0, -1, top)
	m.p.Classes[0].Parents = append(m.p.Classes[0].Parents, of(api.MaxArgs))
	wantFault(t, "13 parents", m.p, Fault{PClass, 0, api.ErrLimit})
	m.p.Classes[0].Parents[0] = kindOf(api.TInt)
	wantFault(t, "13 parents, one wrong", m.p, Fault{PClass, 0, api.ErrLimit})
}

// P6.1: rule 5.
func TestAncestry(t *testing.T) {
	m := newMaker()
	m.class("A", api.IsClass, 0, -1, top)
	m.class("B", api.IsClass, 0, -1, of(0))
	m.class("C", api.IsClass, 0, -1, of(1))
	m.class("D", api.IsClass, 0, -1, of(2))
	wantFault(t, "no cycle", m.p, Fault{})
	m.p.Classes[1].Parents[0] = of(3)
	wantFault(t, "a cycle of three", m.p, Fault{PClass, 1, api.ErrCycle})
	m.p.Classes[0].Parents[0] = of(2)
	wantFault(t, "a class that leads to a cycle", m.p, Fault{PClass, 1, api.ErrCycle})
	m.p.Classes[3].Parents = nil
	wantFault(t, "a cycle and a class without parents", m.p, Fault{PClass, 3, api.ErrEmpty})

	m = newMaker()
	m.class("T", api.IsTrait, 0, -1, top, of(1))
	m.class("U", api.IsTrait, 0, -1, top, of(0))
	wantFault(t, "traits of each other", m.p, Fault{PClass, 0, api.ErrCycle})
}

// P6.1: rule 5, case classes above case classes.
func TestCaseAncestors(t *testing.T) {
	m := newMaker()
	m.class("A", api.IsClass, api.Case, -1, of(1))
	m.class("B", api.IsClass, 0, -1, of(2))
	m.class("C", api.IsClass, api.Case, -1, top)
	wantFault(t, "by way of another class", m.p, Fault{PClass, 0, api.ErrInvalid})
	m.p.Classes[0].Kind = api.IsObject
	wantFault(t, "a case object", m.p, Fault{PClass, 0, api.ErrInvalid})
	m.p.Classes[0].Flags = 0
	wantFault(t, "no case class", m.p, Fault{})
	m.p.Classes[0].Flags = api.Case
	m.p.Classes[2].Flags = 0
	wantFault(t, "no case ancestor", m.p, Fault{})

	// The fault of an earlier class comes first, also if it is the later one of
	// the rule.
	m.p.Classes[2].Flags = api.Case
	m.class("X", api.IsClass, 0, -1, of(4))
	m.class("Y", api.IsClass, 0, -1, of(3))
	wantFault(t, "a case ancestor and a cycle", m.p, Fault{PClass, 0, api.ErrInvalid})

	// On a cycle and with a case ancestor.
	m.p.Classes[0].Kind = api.IsClass
	m.p.Classes[2].Parents[0], m.p.Classes[3].Parents[0] = of(3), of(0)
	wantFault(t, "a cycle with case classes", m.p, Fault{PClass, 0, api.ErrCycle})
}
