package symbols

import (
	"slices"
	"testing"

	"newel/api"
)

// outOfRange are indices that no list of these programs has.
var outOfRange = []int{-1, -2, 9, 500, 1 << 62, -1 << 63}

// P6.2: FindClass.
func TestFindClass(t *testing.T) {
	p := sample()
	for _, c := range []struct {
		owner  int
		name   string
		object bool
		want   int
	}{
		{-1, "Base", false, base},
		{-1, "Base", true, -1},
		{-1, "Tr", false, tr},
		{-1, "Leaf", false, leaf},
		{-1, "Leaf", true, comp},
		{comp, "In", false, inner},
		{-1, "In", false, -1},
		{leaf, "In", false, -1},
		{inner, "Deep", true, deep},
		{inner, "Deep", false, -1},
		{-1, "", false, -1},
		{-1, "base", false, -1},
		{-2, "Base", false, -1},
		{9, "Base", false, -1},
		{1 << 62, "Base", false, -1},
	} {
		if got := FindClass(p, c.owner, c.name, c.object); got != c.want {
			t.Errorf("FindClass(%d, %q, %v) = %d, want %d", c.owner, c.name, c.object, got, c.want)
		}
	}
	if got := FindClass(api.Program{}, -1, "A", false); got != -1 {
		t.Errorf("FindClass of the empty program = %d", got)
	}
	// In a wrong program there may be several: the first one. A kind that is
	// none is no object.
	p = api.Program{Classes: []api.Class{{Name: "B"}, {Name: "A", Kind: 7}, {Name: "A", Kind: api.IsTrait}, {Name: "A", Kind: api.IsObject}, {Name: "A", Kind: api.IsObject}}}
	if got := FindClass(p, 0, "A", false); got != 1 {
		t.Errorf("FindClass of several classes = %d", got)
	}
	if got := FindClass(p, 0, "A", true); got != 3 {
		t.Errorf("FindClass of several objects = %d", got)
	}
}

// P6.2: Declared.
func TestDeclared(t *testing.T) {
	p := sample()
	want := func(what string, got []api.Ref, want ...api.Ref) {
		t.Helper()
		if !slices.Equal(got, want) {
			t.Errorf("%s: Declared = %v, want %v", what, got, want)
		}
	}
	want("a method", Declared(p, base, "m"), api.Ref{Kind: api.RefMethod, Index: baseM})
	want("a field", Declared(p, leaf, "y"), api.Ref{Kind: api.RefField, Index: leafY})
	want("a parameter", Declared(p, leaf, "x"), api.Ref{Kind: api.RefField, Index: leafX})
	want("a type", Declared(p, base, "V"), api.Ref{Kind: api.RefType, Index: baseV})
	want("a type parameter", Declared(p, base, "A"))
	want("an inherited method", Declared(p, leaf, "n"))
	want("an inner class", Declared(p, comp, "In"))
	want("the empty name", Declared(p, base, ""))
	for _, i := range outOfRange {
		want("no class", Declared(p, i, "m"))
	}

	// Several ones, in the order of the lists; indices that do not exist are
	// passed over.
	p = api.Program{
		Classes: []api.Class{{Types: []int{5, 1, 0}, Methods: []int{2, 0, -1, 1}, Fields: []int{1, 9, 0}}},
		Fields:  []api.Field{{Name: "a"}, {Name: "a"}, {Name: "a"}},
		Methods: []api.Method{{Name: "a"}, {Name: "b"}, {Name: "a"}},
		Types:   []api.TypeMember{{Name: "a"}, {Name: "a"}},
	}
	want("several", Declared(p, 0, "a"),
		api.Ref{Kind: api.RefField, Index: 1}, api.Ref{Kind: api.RefField, Index: 0},
		api.Ref{Kind: api.RefMethod, Index: 2}, api.Ref{Kind: api.RefMethod, Index: 0},
		api.Ref{Kind: api.RefType, Index: 1}, api.Ref{Kind: api.RefType, Index: 0})
}

// P6.2: Children and Ancestors.
func TestFamilies(t *testing.T) {
	p := sample()
	wantList(t, "Children(base)", Children(p, base), leaf, far)
	wantList(t, "Children(tr)", Children(p, tr), leaf, deep)
	wantList(t, "Children(leaf)", Children(p, leaf))
	wantList(t, "Ancestors(leaf)", Ancestors(p, leaf), base, tr)
	wantList(t, "Ancestors(deep)", Ancestors(p, deep), tr)
	wantList(t, "Ancestors(base)", Ancestors(p, base))
	for _, i := range outOfRange {
		wantList(t, "Children of none", Children(p, i))
		wantList(t, "Ancestors of none", Ancestors(p, i))
	}

	// 5 above 3 and 4, these above 1; in front of the classes that extend them.
	m := newMaker()
	for i, parents := range [][]api.Type{
		{of(1)}, {top, of(4), of(3)}, {top}, {top, of(5)}, {top, of(5)}, {top},
	} {
		m.class(digitsOf(i), api.IsTrait, 0, -1, parents...)
	}
	wantList(t, "Ancestors", Ancestors(m.p, 0), 1, 3, 4, 5)
	wantList(t, "Children", Children(m.p, 5), 3, 4)

	// Wrong programs: a class that is not there, one that is there twice, a type
	// that is no class, and cycles.
	m = newMaker()
	for i, parents := range [][]api.Type{
		{of(9), of(1), of(1), of(-1), {Kind: api.TThis, Sym: 3}},
		{of(2)}, {of(4), of(1)}, {of(3)}, {}, {of(0), of(3)},
	} {
		m.class(digitsOf(i), api.IsClass, 0, -1, parents...)
	}
	wantList(t, "Ancestors", Ancestors(m.p, 0), 1, 2, 4)
	wantList(t, "Ancestors on a cycle", Ancestors(m.p, 1), 1, 2, 4)
	wantList(t, "Ancestors of itself", Ancestors(m.p, 3), 3)
	wantList(t, "Ancestors of two", Ancestors(m.p, 5), 0, 1, 2, 3, 4)
	wantList(t, "Children once", Children(m.p, 1), 0, 2)
	wantList(t, "Children and itself", Children(m.p, 3), 3, 5)
	wantList(t, "Children of a class that is not there", Children(m.p, 9))
	wantList(t, "Children of -1", Children(m.p, -1))
}

// P6.2: Inside.
func TestInside(t *testing.T) {
	p := sample()
	for inner := range p.Classes {
		for outer := range p.Classes {
			want := inner == 4 && outer == comp || inner == deep && (outer == 4 || outer == comp)
			if got := Inside(p, inner, outer); got != want {
				t.Errorf("Inside(%d, %d) = %v", inner, outer, got)
			}
		}
		for _, i := range outOfRange {
			if Inside(p, inner, i) || Inside(p, i, inner) || Inside(p, i, i) {
				t.Errorf("Inside of %d and %d", inner, i)
			}
		}
	}

	// Owners in cycles, and one that does not exist.
	m := newMaker()
	for i, owner := range []int{1, 2, 1, 3, 9, 4} {
		m.class(digitsOf(i), api.IsClass, 0, owner, top)
	}
	for _, c := range []struct {
		inner, outer int
		want         bool
	}{
		{0, 0, false}, {0, 1, true}, {0, 2, true}, {1, 1, true}, {2, 2, true}, {1, 0, false},
		{3, 3, true}, {3, 4, false}, {4, 9, false}, {5, 4, true}, {5, 9, false}, {5, 5, false},
	} {
		if got := Inside(m.p, c.inner, c.outer); got != c.want {
			t.Errorf("Inside(%d, %d) = %v", c.inner, c.outer, got)
		}
	}
}

// P1: long chains and cycles, in all functions.
func TestLongChains(t *testing.T) {
	const count = 100000
	m := newMaker()
	for i := range count {
		m.class("a", api.IsClass, 0, i-1, of(i-1))
	}
	if got := Ancestors(m.p, count-1); len(got) != count-1 {
		t.Errorf("%d ancestors", len(got))
	}
	if !Inside(m.p, count-1, 0) || Inside(m.p, 0, count-1) {
		t.Errorf("Inside of a chain")
	}
	if s, code := FullName(m.p, count-1); code != api.OK || len(s) != 2*count-1 {
		t.Errorf("FullName of a chain: %d bytes, %v", len(s), code)
	}
	wantFault(t, "a chain", m.p, Fault{0, 0, api.ErrLimit})
	m.p.Classes[0].Owner = count - 1
	m.p.Classes[0].Parents[0] = of(count - 1)
	if got := Ancestors(m.p, 7); len(got) != count {
		t.Errorf("%d ancestors on a cycle", len(got))
	}
	if !Inside(m.p, 7, 7) {
		t.Errorf("Inside of a cycle")
	}
	if s, code := FullName(m.p, 7); code != api.ErrCycle || s != "" {
		t.Errorf("FullName of a cycle: %q, %v", s, code)
	}
}

// P1, R4: results are new, and arguments stay as they are.
func TestMemory(t *testing.T) {
	p := sample()
	list := p.Classes[base].Fields
	p.Classes[base].Fields = append(make([]int, 0, 10), list...)
	spare := p.Classes[base].Fields[:10]
	for i := len(list); i < 10; i++ {
		spare[i] = 77
	}
	Check(p)
	Text(p)
	Declared(p, base, "x")
	Ancestors(p, leaf)
	for i := len(list); i < 10; i++ {
		if spare[i] != 77 {
			t.Errorf("memory behind a list has changed")
		}
	}
	a, b := Ancestors(p, leaf), Ancestors(p, leaf)
	a[0] = 100
	if b[0] != base {
		t.Errorf("results share memory")
	}
}
