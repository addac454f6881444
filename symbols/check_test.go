package symbols

import (
	"testing"

	"newel/api"
)

// change is something that is done to sample, and the fault that it makes.
type change struct {
	what string
	do   func(p *api.Program)
	want Fault
}

// wantChanges checks the faults of changed samples.
func wantChanges(t *testing.T, list []change) {
	t.Helper()
	wantFault(t, "sample", sample(), Fault{})
	for _, c := range list {
		p := sample()
		c.do(&p)
		wantFault(t, c.what, p, c.want)
	}
}

// The numbers of the parts, which other layers may write down.
func TestParts(t *testing.T) {
	if PClass != 1 || PMethod != 2 || PField != 3 || PTParam != 4 || PTypeMember != 5 || PMain != 6 {
		t.Errorf("the parts are %v", []int{PClass, PMethod, PField, PTParam, PTypeMember, PMain})
	}
}

// P6.5: the empty program is right.
func TestEmpty(t *testing.T) {
	wantFault(t, "the empty program", api.Program{Main: -1}, Fault{})
	wantFault(t, "the empty program with a Main", api.Program{}, Fault{PMain, 0, api.ErrRange})
}

// P6.1: the examples of the chapter.
func TestExamples(t *testing.T) {
	m := newMaker()
	a := m.class("A", api.IsTrait, 0, -1, top)
	b := m.class("B", api.IsClass, 0, -1, top, of(a))
	wantFault(t, "A and B", m.p, Fault{})
	wantList(t, "Ancestors(B)", Ancestors(m.p, b), a)
	wantList(t, "Children(A)", Children(m.p, a), b)
	m.p.Classes[b].Flags = api.Final
	m.class("C", api.IsClass, 0, -1, of(b))
	wantFault(t, "a child of a final class", m.p, Fault{PClass, 2, api.ErrFinal})

	m = newMaker()
	m.class("A", api.IsClass, 0, -1, of(0))
	wantFault(t, "a class with itself as a parent", m.p, Fault{PClass, 0, api.ErrCycle})

	m = newMaker()
	m.class("A", api.IsClass, 0, -1, top)
	m.method(0, "f", api.Abstract)
	wantFault(t, "an abstract method", m.p, Fault{PMethod, 0, api.ErrAbstract})
	m.p.Methods[0].Flags = 0
	wantFault(t, "a method without a body", m.p, Fault{PMethod, 0, api.ErrInvalid})
}

// P6.1: rule 1, with exactly as many items as are permitted, and one more.
func TestTables(t *testing.T) {
	grow := map[string]func(m *maker, name string){
		"classes":         func(m *maker, name string) { m.class(name, api.IsClass, 0, -1, top) },
		"methods":         func(m *maker, name string) { m.method(-1, name, 0) },
		"fields":          func(m *maker, name string) { m.field(0, name, 0) },
		"type members":    func(m *maker, name string) { m.member(0, name) },
		"type parameters": func(m *maker, name string) { m.classParam(len(m.p.TParams)/api.MaxArgs, name, 0) },
	}
	for what, add := range grow {
		m := newMaker()
		for i := range api.MaxTable/api.MaxArgs + 2 {
			m.class("K"+digitsOf(i), api.IsClass, 0, -1, top)
		}
		count := func() int {
			return map[string]int{"classes": len(m.p.Classes), "methods": len(m.p.Methods), "fields": len(m.p.Fields),
				"type members": len(m.p.Types), "type parameters": len(m.p.TParams)}[what]
		}
		for count() < api.MaxTable {
			add(m, "n"+digitsOf(count()))
		}
		wantFault(t, "500 "+what, m.p, Fault{})
		add(m, "n"+digitsOf(count()))
		wantFault(t, "501 "+what, m.p, Fault{0, 0, api.ErrLimit})
		m.p.Classes[0].Name = ""
		m.p.Main = 1000
		wantFault(t, "501 "+what+" and other faults", m.p, Fault{0, 0, api.ErrLimit})
	}
}

// digitsOf returns a number as three letters.
func digitsOf(n int) string {
	return string([]byte{byte('a' + n/100%10), byte('a' + n/10%10), byte('a' + n%10)})
}

// P6.1: the flags that are permitted, and no other ones.
func TestFlags(t *testing.T) {
	const (
		ofClass  = api.Abstract | api.Final | api.Sealed | api.Private | api.Case | api.Value | api.Synthetic
		ofMethod = api.Abstract | api.Final | api.Private | api.Override | api.Given | api.Inline | api.Extension | api.Synthetic
		ofField  = api.Final | api.Private | api.Override | api.Var | api.Lazy | api.Volatile | api.Given | api.Synthetic
		ofLocal  = api.Var | api.Lazy | api.Given | api.Using | api.Synthetic
		ofParam  = api.Using | api.Synthetic
	)
	// A program in which each flag alone is right, as far as the part permits it.
	set := func(part, flags int) api.Program {
		m := newMaker()
		m.class("A", api.IsClass, api.Abstract, -1, top)
		m.method(0, "f", 0, "p")
		m.local(0, "l", 0)
		m.field(0, "g", 0)
		m.class("B", api.IsClass, 0, -1, top)
		m.param(1, "h", 0)
		switch part {
		case PClass:
			m.p.Classes[1].Flags = flags
		case PMethod:
			m.p.Methods[0].Flags = flags
			if flags&api.Abstract != 0 {
				m.p.Methods[0].Body = nil
			}
		case PField:
			m.p.Fields[0].Flags = flags
			if flags == api.Volatile {
				m.p.Fields[0].Flags |= api.Var
			}
		case parameter:
			m.p.Methods[0].Locals[0].Flags = flags
		case local:
			m.p.Methods[0].Locals[1].Flags = flags
		}
		return m.p
	}
	for _, c := range []struct{ part, permitted, shown, index int }{
		{PClass, ofClass, PClass, 1},
		{PMethod, ofMethod, PMethod, 0},
		{PField, ofField, PField, 0},
		{local, ofLocal, PMethod, 0},
		{parameter, ofParam, PMethod, 0},
	} {
		wantFault(t, "no flag", set(c.part, 0), Fault{})
		bad := Fault{c.shown, c.index, api.ErrInvalid}
		for bit := range 40 {
			want := bad
			if c.permitted&(1<<bit) != 0 {
				want = Fault{}
			}
			wantFault(t, "flag "+digitsOf(bit)+" of "+digitsOf(c.part), set(c.part, 1<<bit), want)
		}
		for _, flags := range []int{-1, -api.Flags, -1 << 63, 1<<63 - 1, -api.Flags + api.Synthetic, api.Flags, api.Flags + api.Synthetic} {
			wantFault(t, "unknown flags", set(c.part, flags), bad)
		}
	}
}

// P6.1: rule 2.
func TestClasses(t *testing.T) {
	at := func(index int, code api.Errno) Fault { return Fault{PClass, index, code} }
	wantChanges(t, []change{
		{"no name", func(p *api.Program) { p.Classes[tr].Name = "" }, at(tr, api.ErrName)},
		{"a wrong name", func(p *api.Program) { p.Classes[tr].Name = "a b" }, at(tr, api.ErrName)},
		{"an operator", func(p *api.Program) { p.Classes[tr].Name = "=>" }, Fault{}},
		{"a name of 64 bytes", func(p *api.Program) { p.Classes[tr].Name = long(64) }, Fault{}},
		{"a name of 65 bytes", func(p *api.Program) { p.Classes[tr].Name = long(65) }, at(tr, api.ErrName)},
		{"kind -1", func(p *api.Program) { p.Classes[val].Kind = -1 }, at(val, api.ErrKind)},
		{"kind 3", func(p *api.Program) { p.Classes[val].Kind = api.ClassKinds }, at(val, api.ErrKind)},
		{"abstract and final", func(p *api.Program) { p.Classes[inner].Flags = api.Abstract | api.Final }, at(inner, api.ErrInvalid)},
		{"abstract, sealed and case", func(p *api.Program) { p.Classes[inner].Flags = api.Abstract | api.Sealed | api.Case }, Fault{}},
		{"a final trait", func(p *api.Program) { p.Classes[tr].Flags = api.Final }, at(tr, api.ErrInvalid)},
		{"a case trait", func(p *api.Program) { p.Classes[tr].Flags = api.Case }, at(tr, api.ErrInvalid)},
		{"a value trait", func(p *api.Program) { p.Classes[tr].Flags = api.Value }, at(tr, api.ErrInvalid)},
		{"an abstract, sealed, private trait", func(p *api.Program) { p.Classes[tr].Flags = api.Abstract | api.Sealed | api.Private }, Fault{}},
		{"an abstract object", func(p *api.Program) { p.Classes[comp].Flags = api.Abstract }, at(comp, api.ErrInvalid)},
		{"a sealed object", func(p *api.Program) { p.Classes[comp].Flags = api.Sealed }, at(comp, api.ErrInvalid)},
		{"a value object", func(p *api.Program) { p.Classes[comp].Flags = api.Value }, at(comp, api.ErrInvalid)},
		{"a final, private case object", func(p *api.Program) { p.Classes[comp].Flags = api.Final | api.Private | api.Case }, Fault{}},
		{"the owner -2", func(p *api.Program) { p.Classes[val].Owner = -2 }, at(val, api.ErrRange)},
		{"an owner behind the classes", func(p *api.Program) { p.Classes[val].Owner = 9 }, at(val, api.ErrRange)},
		{"the last class as owner", func(p *api.Program) { p.Classes[val].Owner = 8 }, Fault{}},
		{"the first class as owner", func(p *api.Program) { p.Classes[val].Owner = 0 }, Fault{}},
		{"itself as owner", func(p *api.Program) { p.Classes[val].Owner = val }, at(val, api.ErrRange)},
		{"too many TParams", func(p *api.Program) { grown(p, tr, 13) }, at(tr, api.ErrArity)},
		{"an object with params", func(p *api.Program) { p.Classes[home].Params = []int{homeV} }, at(home, api.ErrArity)},
		{"a trait with params", func(p *api.Program) {
			p.Fields[homeV].Owner = tr
			p.Classes[home].Fields = nil
			p.Classes[tr].Fields = []int{homeV}
			p.Classes[tr].Params = []int{homeV}
		}, at(tr, api.ErrArity)},
		{"an object with TParams", func(p *api.Program) { p.Classes[home].TParams = []int{baseA} }, at(home, api.ErrArity)},
		{"a field of another class", func(p *api.Program) { p.Classes[home].Fields = []int{homeV, baseX} }, at(home, api.ErrInvalid)},
		{"a method of another class", func(p *api.Program) { p.Classes[home].Methods = []int{run, baseM} }, at(home, api.ErrInvalid)},
		{"a function in a class", func(p *api.Program) { p.Classes[home].Methods = []int{run, fun} }, at(home, api.ErrInvalid)},
		{"a type of another class", func(p *api.Program) { p.Classes[home].Types = []int{baseT} }, at(home, api.ErrInvalid)},
		{"a type parameter of another class", func(p *api.Program) { p.Classes[val].TParams = []int{baseA} }, at(val, api.ErrInvalid)},
		{"a type parameter of a method", func(p *api.Program) { p.Classes[val].TParams = []int{funD} }, at(val, api.ErrInvalid)},
		{"a type parameter of a class and a method", func(p *api.Program) { p.TParams[trB].Method = fun }, at(tr, api.ErrInvalid)},
		{"a type parameter of a class and the method -2", func(p *api.Program) { p.TParams[trB].Method = -2 }, at(tr, api.ErrInvalid)},
		{"a param that is no field", func(p *api.Program) { p.Classes[val].Params = []int{valX, baseX} }, at(val, api.ErrInvalid)},
		{"a param that is no field of it", func(p *api.Program) { p.Classes[far].Params = []int{baseX} }, at(far, api.ErrInvalid)},
		{"a value class without a param", func(p *api.Program) { p.Classes[val].Params = nil }, at(val, api.ErrInvalid)},
		{"a value class without a field", func(p *api.Program) { p.Classes[val].Params, p.Classes[val].Fields = nil, nil }, at(val, api.ErrInvalid)},
		{"a value class with two params", func(p *api.Program) { twoFields(p, true) }, at(val, api.ErrInvalid)},
		{"a value class with another field", func(p *api.Program) { twoFields(p, false) }, at(val, api.ErrInvalid)},
		{"another class with two params", func(p *api.Program) { twoFields(p, true); p.Classes[val].Flags = 0 }, Fault{}},
	})
}

// grown gives a class as many type parameters.
func grown(p *api.Program, class, count int) {
	m := &maker{*p}
	for len(m.p.Classes[class].TParams) < count {
		m.classParam(class, digitsOf(len(m.p.TParams)), 0)
	}
	*p = m.p
}

// twoFields gives the value class another field.
func twoFields(p *api.Program, param bool) {
	m := &maker{*p}
	if param {
		m.param(val, "w", 0)
	} else {
		m.field(val, "w", 0)
	}
	*p = m.p
}

// lists returns the lists of a class, with the part to which they refer.
func lists(k *api.Class) map[*[]int]int {
	return map[*[]int]int{&k.TParams: PTParam, &k.Params: PField, &k.Fields: PField, &k.Methods: PMethod, &k.Types: PTypeMember}
}

// P6.1: rule 2, indices in lists that do not exist or stand there twice.
func TestLists(t *testing.T) {
	for place := range 5 {
		for _, c := range []struct {
			index func(size int) int
			code  api.Errno
		}{
			{func(int) int { return -1 }, api.ErrRange},
			{func(size int) int { return size }, api.ErrRange},
			{func(size int) int { return 1 << 62 }, api.ErrRange},
			{func(int) int { return -1 << 63 }, api.ErrRange},
		} {
			p := sample()
			k := &p.Classes[base]
			l := []*[]int{&k.TParams, &k.Params, &k.Fields, &k.Methods, &k.Types}[place]
			size := (&tables{p}).size(lists(k)[l])
			*l = append(*l, c.index(size))
			wantFault(t, "an index that does not exist", p, Fault{PClass, base, c.code})
			*l = append((*l)[:1], (*l)[0])
			wantFault(t, "an index that stands twice", p, Fault{PClass, base, api.ErrTwice})
		}
	}
}

// P6.1: rule 2, exactly as many parameters as are permitted, and one more.
func TestCounts(t *testing.T) {
	for count, want := range map[int]Fault{api.MaxArgs: {}, api.MaxArgs + 1: {PClass, 0, api.ErrArity}} {
		m := newMaker()
		m.class("A", api.IsClass, 0, -1, top)
		for i := range count {
			m.param(0, digitsOf(i), 0)
		}
		wantFault(t, "Params", m.p, want)
		m = newMaker()
		m.class("A", api.IsClass, 0, -1, top)
		for i := range count {
			m.classParam(0, digitsOf(i), 0)
		}
		wantFault(t, "TParams", m.p, want)
	}
}

// P6.1: rule 3.
func TestNesting(t *testing.T) {
	m := newMaker()
	for i, owner := range []int{-1, 0, 2, 4, 3, -1} {
		m.class(digitsOf(i), api.IsClass, 0, owner, top)
	}
	m.p.Classes[2].Owner = 1
	m.p.Classes[4].Owner = 1
	m.p.Classes[3].Owner = 2
	wantFault(t, "no cycle", m.p, Fault{})
	// 2 leads to the cycle of 3 and 4, but is not on it.
	m.p.Classes[2].Owner = 4
	m.p.Classes[3].Owner = 4
	m.p.Classes[4].Owner = 3
	wantFault(t, "a cycle of two", m.p, Fault{PClass, 3, api.ErrCycle})
	m.p.Classes[3].Owner = 5
	m.p.Classes[5].Owner = 4
	wantFault(t, "a cycle of three", m.p, Fault{PClass, 3, api.ErrCycle})
	m.p.Classes[0].Parents = nil
	wantFault(t, "a cycle and no parents", m.p, Fault{PClass, 3, api.ErrCycle})
	m.p.Classes[5].Name = ""
	wantFault(t, "a cycle and a name", m.p, Fault{PClass, 5, api.ErrName})
}
