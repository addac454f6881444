package symbols

import (
	"maps"
	"slices"
	"testing"

	"newel/api"
)

// rightProgram returns a random program that is right, but for a name that may
// stand twice.
func rightProgram(d *dice) api.Program {
	m := newMaker()
	for i := range d.roll(7) {
		kind := d.roll(api.ClassKinds)
		owner := d.roll(i+2) - 1
		if owner == i {
			owner = -1
		}
		k := m.class(d.pick("A", "B", "C", "+", "K$1"), kind, 0, owner, top)
		m.flags(d, k)
		m.relate(d, k)
		m.fill(d, k)
	}
	for range d.roll(3) {
		m.function(d, -1)
	}
	for i, x := range m.p.Methods {
		if d.one(3) && x.Params == 0 && len(x.TParams) == 0 && x.Owner == -1 {
			m.p.Main = i
		}
	}
	return m.p
}

// some returns a random choice of flags.
func some(d *dice, flags ...int) int {
	sum := 0
	for _, f := range flags {
		if d.one(4) {
			sum += f
		}
	}
	return sum
}

func (m *maker) flags(d *dice, class int) {
	k := &m.p.Classes[class]
	k.Flags = some(d, api.Private, api.Synthetic)
	switch k.Kind {
	case api.IsTrait:
		k.Flags |= some(d, api.Abstract, api.Sealed)
	case api.IsObject:
		k.Flags |= some(d, api.Case, api.Final)
	default:
		k.Flags |= some(d, api.Sealed, api.Case) | []int{0, 0, api.Abstract, api.Final}[d.roll(4)]
	}
}

// relate gives a class parents that stand in front of it.
func (m *maker) relate(d *dice, class int) {
	k := &m.p.Classes[class]
	for j, y := range m.p.Classes[:class] {
		x := of(j, make([]api.Type, len(y.TParams))...)
		above := append(Ancestors(m.p, j), j)
		clash := k.Flags&api.Case != 0 && slices.ContainsFunc(above, func(i int) bool { return m.p.Classes[i].Flags&api.Case != 0 })
		if clash || y.Flags&api.Final != 0 || d.one(2) {
			continue
		}
		switch {
		case y.Kind == api.IsTrait:
			k.Parents = append(k.Parents, x)
		case y.Kind == api.IsClass && k.Kind != api.IsTrait && len(k.Parents) == 1:
			k.Parents[0] = x
		}
	}
}

// fill gives a class members.
func (m *maker) fill(d *dice, class int) {
	if m.p.Classes[class].Kind != api.IsObject {
		for _, name := range []string{"A", "B"}[:d.roll(3)] {
			m.classParam(class, name, d.roll(3)-1)
		}
	}
	for _, name := range []string{"x", "y", "z"}[:d.roll(4)] {
		i := m.field(class, name, some(d, api.Final, api.Private, api.Override, api.Given, api.Synthetic)|[]int{0, api.Var, api.Lazy, api.Var | api.Volatile}[d.roll(4)])
		if m.p.Classes[class].Kind == api.IsClass && d.one(2) {
			m.p.Classes[class].Params = append(m.p.Classes[class].Params, i)
			m.p.Fields[i].Flags &^= api.Lazy
		}
	}
	if k := &m.p.Classes[class]; len(k.Fields) == 1 && len(k.Params) == 1 && k.Parents[0].Kind == api.TAny {
		k.Flags |= some(d, api.Value)
	}
	for range d.roll(4) {
		m.function(d, class)
	}
	for _, name := range []string{"T", "U"}[:d.roll(3)] {
		m.p.Types[m.member(class, name)].Arity = d.roll(3)
	}
}

// function gives a class, or the program, a method.
func (m *maker) function(d *dice, owner int) {
	flags := some(d, api.Given, api.Extension, api.Synthetic)
	if owner >= 0 {
		flags |= some(d, api.Override)
		if k := m.p.Classes[owner]; (k.Kind == api.IsTrait || k.Flags&api.Abstract != 0) && d.one(2) {
			flags |= api.Abstract
		}
	}
	if flags&api.Abstract == 0 {
		flags |= some(d, api.Final, api.Private, api.Inline)
	}
	i := m.method(owner, d.pick("f", "g", "+"), flags, []string{"a", "b", "c"}[:d.roll(4)]...)
	for j := range m.p.Methods[i].Locals {
		m.p.Methods[i].Locals[j].Flags = some(d, api.Using, api.Synthetic)
	}
	for range d.roll(3) {
		m.local(i, d.pick("a", "b"), some(d, api.Given, api.Using, api.Synthetic)|[]int{0, api.Var, api.Lazy}[d.roll(3)])
	}
	for _, name := range []string{"A", "B"}[:d.roll(3)] {
		m.methodParam(i, name)
	}
}

// near is a number around a list of n.
func near(d *dice, n int) int {
	return []int{-2, -1, 0, 1, n - 1, n, d.roll(n + 3), d.roll(n+3) - 1}[d.roll(8)]
}

func badName(d *dice) string {
	return d.pick("", "A", "x", "f", "1", "a b", "T", long(64), long(65), "+")
}

func badFlags(d *dice, old int) int {
	switch d.roll(8) {
	case 0:
		return -1
	case 1:
		return -1 << 14
	case 2:
		return d.roll(1 << 17)
	}
	return old ^ 1<<d.roll(16)
}

// spoilt changes a random thing of a program.
func spoilt(d *dice, p *api.Program) {
	kinds := []int{PClass, PClass, PClass, PMethod, PMethod, PField, PTParam, PTypeMember, PMain}
	part := kinds[d.roll(len(kinds))]
	size := (&tables{*p}).size(part)
	if part == PMain {
		p.Main = near(d, len(p.Methods))
	}
	if size == 0 {
		return
	}
	i := d.roll(size)
	switch part {
	case PClass:
		spoilClass(d, p, &p.Classes[i])
	case PMethod:
		spoilMethod(d, p, &p.Methods[i])
	case PField:
		f := &p.Fields[i]
		switch d.roll(3) {
		case 0:
			f.Name = badName(d)
		case 1:
			f.Owner = near(d, len(p.Classes))
		default:
			f.Flags = badFlags(d, f.Flags)
		}
	case PTParam:
		x := &p.TParams[i]
		*[]*int{&x.Class, &x.Method, &x.Variance, &x.Arity}[d.roll(4)] = near(d, 3)
		if d.one(4) {
			x.Name = badName(d)
		}
	case PTypeMember:
		x := &p.Types[i]
		*[]*int{&x.Owner, &x.Arity}[d.roll(2)] = near(d, 12)
		if d.one(3) {
			x.Name = badName(d)
		}
	}
}

func spoilClass(d *dice, p *api.Program, k *api.Class) {
	list := []*[]int{&k.TParams, &k.Params, &k.Fields, &k.Methods, &k.Types}[d.roll(5)]
	switch d.roll(9) {
	case 0:
		k.Name = badName(d)
	case 1:
		k.Kind = near(d, 3)
	case 2:
		k.Flags = badFlags(d, k.Flags)
	case 3, 4:
		k.Owner = near(d, len(p.Classes))
	case 5:
		*list = append(*list, near(d, len(*list)))
	case 6:
		if len(*list) > 0 {
			*list = slices.Delete(*list, 0, 1)
		}
	default:
		spoilParents(d, p, k)
	}
}

func spoilParents(d *dice, p *api.Program, k *api.Class) {
	x := of(near(d, len(p.Classes)))
	if x.Sym >= 0 && x.Sym < len(p.Classes) && !d.one(4) {
		x.Args = make([]api.Type, len(p.Classes[x.Sym].TParams))
	}
	if d.one(8) {
		x = kindOf(near(d, api.TKinds))
	}
	switch {
	case len(k.Parents) == 0 || d.one(2):
		k.Parents = append(k.Parents, x)
	case d.one(6):
		k.Parents = nil
	default:
		k.Parents[d.roll(len(k.Parents))] = x
	}
}

func spoilMethod(d *dice, p *api.Program, m *api.Method) {
	switch d.roll(8) {
	case 0:
		m.Name = badName(d)
	case 1:
		m.Flags = badFlags(d, m.Flags)
	case 2:
		m.Owner = near(d, len(p.Classes))
	case 3:
		m.Body = []*api.Tree{nil, {}}[d.roll(2)]
	case 4:
		m.Params = near(d, len(m.Locals))
	case 5:
		m.TParams = append(m.TParams, near(d, len(p.TParams)))
	default:
		for i := range m.Locals {
			if d.one(2) {
				m.Locals[i].Flags = badFlags(d, m.Locals[i].Flags)
			} else if d.one(2) {
				m.Locals[i].Name = badName(d)
			}
		}
	}
}

// P6.1: Check of random programs, right ones and ones with several faults, is
// what the oracle tells; and each function ends for each of them (P1).
func TestRandomPrograms(t *testing.T) {
	d := dice(6)
	codes := map[Fault]int{}
	right := 0
	for range 60000 {
		p := rightProgram(&d)
		for range d.roll(4) {
			spoilt(&d, &p)
		}
		want := oracleCheck(p)
		if got := Check(p); got != want {
			t.Fatalf("Check = %v, want %v: %+v", got, want, p)
		}
		if want.Code == api.OK {
			right++
			wantRight(t, p)
		}
		codes[Fault{Part: want.Part, Code: want.Code}]++
		wantSearches(t, p)
		wantSynthetic(t, &d, p)
	}
	if right < 5000 {
		t.Errorf("only %d right programs", right)
	}
	// Each pair of a part and a code that the rules have.
	for part, list := range map[int][]api.Errno{
		PClass:      {api.ErrName, api.ErrKind, api.ErrInvalid, api.ErrRange, api.ErrTwice, api.ErrArity, api.ErrCycle, api.ErrEmpty, api.ErrFinal},
		PMethod:     {api.ErrName, api.ErrInvalid, api.ErrRange, api.ErrTwice, api.ErrArity, api.ErrNoEntry, api.ErrAbstract},
		PField:      {api.ErrName, api.ErrInvalid, api.ErrRange, api.ErrNoEntry, api.ErrTwice},
		PTParam:     {api.ErrName, api.ErrRange, api.ErrNoEntry, api.ErrVariance, api.ErrTwice},
		PTypeMember: {api.ErrName, api.ErrRange, api.ErrNoEntry, api.ErrTwice},
		PMain:       {api.ErrRange, api.ErrInvalid},
	} {
		for _, code := range list {
			if codes[Fault{Part: part, Code: code}] == 0 {
				t.Errorf("no fault %v of the part %d", code, part)
			}
		}
	}
}

// wantSearches holds the searches of any program against their definitions.
func wantSearches(t *testing.T, p api.Program) {
	t.Helper()
	o := &oracle{p: p}
	n := len(p.Classes)
	for i := -1; i <= n; i++ {
		exists := i >= 0 && i < n
		above := map[int]bool{}
		below := map[int]bool{}
		for j := range p.Classes {
			if exists && reaches(i, j, o.upward) {
				above[j] = true
			}
			if exists && slices.Contains(o.upward(j), i) {
				below[j] = true
			}
			if got := Inside(p, i, j); got != (exists && reaches(i, j, o.outward)) {
				t.Fatalf("Inside(%d, %d) = %v: %+v", i, j, got, p)
			}
		}
		if got := Ancestors(p, i); !slices.Equal(got, slices.Sorted(maps.Keys(above))) {
			t.Fatalf("Ancestors(%d) = %v: %+v", i, got, p)
		}
		if got := Children(p, i); !slices.Equal(got, slices.Sorted(maps.Keys(below))) {
			t.Fatalf("Children(%d) = %v: %+v", i, got, p)
		}
		_, code := FullName(p, i)
		want := api.OK
		if !exists {
			want = api.ErrRange
		} else if reaches(i, i, o.outward) {
			want = api.ErrCycle
		} else {
			for j := range p.Classes {
				if reaches(i, j, o.outward) && reaches(j, j, o.outward) {
					want = api.ErrCycle
				}
			}
		}
		if code != want {
			t.Fatalf("FullName(%d): %v, want %v: %+v", i, code, want, p)
		}
		Declared(p, i, "x")
		FindClass(p, i, "A", i == 0)
	}
	if _, code := Text(p); code != Check(p).Code {
		t.Fatalf("Text: %v: %+v", code, p)
	}
}

// wantRight holds a right program against P6.5.
func wantRight(t *testing.T, p api.Program) {
	t.Helper()
	n := len(p.Classes)
	names := map[string]bool{}
	for i, k := range p.Classes {
		if Inside(p, i, i) || slices.Contains(Ancestors(p, i), i) {
			t.Fatalf("the class %d is inside or above of itself: %+v", i, p)
		}
		for j := range n {
			for l := range n {
				if Inside(p, i, j) && Inside(p, j, l) && !Inside(p, i, l) {
					t.Fatalf("Inside is not transitive: %+v", p)
				}
			}
		}
		for _, j := range Ancestors(p, i) {
			for _, l := range Ancestors(p, j) {
				if !slices.Contains(Ancestors(p, i), l) {
					t.Fatalf("Ancestors are not transitive: %+v", p)
				}
			}
		}
		for _, x := range k.Parents {
			if x.Kind == api.TClass && !slices.Contains(Children(p, x.Sym), i) {
				t.Fatalf("%d is no child of %d: %+v", i, x.Sym, p)
			}
		}
		if got := FindClass(p, k.Owner, k.Name, k.Kind == api.IsObject); got != i {
			t.Fatalf("FindClass finds %d for %d: %+v", got, i, p)
		}
		name, code := FullName(p, i)
		if code != api.OK || names[name] {
			t.Fatalf("FullName(%d) = %q, %v: %+v", i, name, code, p)
		}
		names[name] = true
	}
}

// wantSynthetic holds a program, right or wrong, against itself without some of
// the flags Synthetic (P6.5).
func wantSynthetic(t *testing.T, d *dice, p api.Program) {
	t.Helper()
	q := copied(p)
	for i := range q.Classes {
		q.Classes[i].Flags &^= some(d, api.Synthetic)
	}
	for i := range q.Methods {
		q.Methods[i].Flags &^= some(d, api.Synthetic)
	}
	for i := range q.Fields {
		q.Fields[i].Flags &^= some(d, api.Synthetic)
	}
	if want, got := Check(p), Check(q); got != want {
		t.Fatalf("Check without Synthetic = %v, with it %v: %+v", got, want, p)
	}
}
