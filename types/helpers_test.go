package types

import (
	"slices"
	"strings"
	"testing"

	"newel/api"
	"newel/symbols"
)

// dice are numbers that look random and are the same in each run.
type dice uint64

// roll returns a number from 0 to n - 1.
func (d *dice) roll(n int) int {
	*d = *d*6364136223846793005 + 1442695040888963407
	return int(uint64(*d)>>33) % n
}

// one reports whether a roll of n is 0.
func (d *dice) one(n int) bool { return d.roll(n) == 0 }

// node returns a type of a kind without fields.
func node(kind int, args ...api.Type) api.Type { return api.Type{Kind: kind, Args: args} }

// named returns a type of a kind with a Sym.
func named(kind, sym int, args ...api.Type) api.Type {
	return api.Type{Kind: kind, Sym: sym, Args: args}
}

func bound(num, sym int) api.Type { return api.Type{Kind: api.TBound, Num: num, Sym: sym} }

func variable(num int) api.Type { return api.Type{Kind: api.TVar, Num: num} }

func lambda(num int, args ...api.Type) api.Type {
	return api.Type{Kind: api.TLambda, Num: num, Args: args}
}

func match(num int, args ...api.Type) api.Type {
	return api.Type{Kind: api.TMatch, Num: num, Args: args}
}

func refined(name string, args ...api.Type) api.Type {
	return api.Type{Kind: api.TRefine, Name: name, Args: args}
}

func and(args ...api.Type) api.Type   { return node(api.TAnd, args...) }
func or(args ...api.Type) api.Type    { return node(api.TOr, args...) }
func fun(args ...api.Type) api.Type   { return node(api.TFun, args...) }
func apply(args ...api.Type) api.Type { return node(api.TApply, args...) }
func wild(lo, hi api.Type) api.Type   { return node(api.TWild, lo, hi) }
func array(t api.Type) api.Type       { return node(api.TArray, t) }
func byName(t api.Type) api.Type      { return node(api.TByName, t) }
func repeat(t api.Type) api.Type      { return node(api.TRepeat, t) }
func this(class int) api.Type         { return named(api.TThis, class) }
func param(i int) api.Type            { return named(api.TParam, i) }
func local(i int) api.Type            { return named(api.TLocal, i) }
func class(i int, args ...api.Type) api.Type {
	return named(api.TClass, i, args...)
}
func member(i int, prefix ...api.Type) api.Type { return named(api.TMember, i, prefix...) }
func field(i int, prefix ...api.Type) api.Type  { return named(api.TField, i, prefix...) }

var (
	anyT     = node(api.TAny)
	nothingT = node(api.TNothing)
	nullT    = node(api.TNull)
	unitT    = node(api.TUnit)
	booleanT = node(api.TBoolean)
	charT    = node(api.TChar)
	intT     = node(api.TInt)
	longT    = node(api.TLong)
	stringT  = node(api.TString)
)

// times returns a list of n equal types.
func times(n int, t api.Type) []api.Type {
	l := make([]api.Type, n)
	for i := range l {
		l[i] = t
	}
	return l
}

// arrays returns a type with n TArrays around another one.
func arrays(n int, t api.Type) api.Type {
	for range n {
		t = array(t)
	}
	return t
}

// wide returns a type of n nodes, 4 deep at most, with TFuns.
func wide(n int) api.Type { return wideOf(n, intT) }

// wideOf is wide with another type as its leaves, which counts as one node.
func wideOf(n int, leaf api.Type) api.Type {
	if n == 1 {
		return leaf
	}
	rest := n - 1
	var args []api.Type
	for rest > 0 {
		part := min(rest, max(1, (n-1)/13+1))
		args = append(args, wideOf(part, leaf))
		rest -= part
	}
	return fun(args...)
}

// The classes of sample.
const (
	box    = iota // Box[A]
	pair2         // Pair[A, B]
	higher        // Higher[F], F being a type function
	obj           // the object Obj
	in            // the class In[C] in Obj
	deep          // the object Deep in In
	plus          // the class + in Deep
	boxOb         // the object Box
	leaf          // Leaf extends Box[Int]
)

// The type parameters of sample.
const (
	boxA = iota
	pairA
	pairB
	higherF
	inC
	runM // of run, with the name Int
	runG // of run, with two parameters
	freeX
)

// The type members of sample.
const (
	boxT = iota // T
	objU        // U, with one parameter
	inV         // V
)

// The fields of sample.
const (
	objF = iota
	objVar
	objLazy
	inOp
)

// The methods of sample.
const (
	run  = iota // in In
	free        // a function
	plusM
)

// The locals of run.
const (
	runX    = iota // a parameter
	runY           // another one
	runU           // a Using parameter
	runZ           // a local
	runVar         // a local with Var
	runLazy        // a lazy local
)

// sample returns a right program with everything in it, and the locals of run.
func sample() api.Env {
	p := api.Program{Main: -1}
	add := func(name string, kind, owner int, parents ...api.Type) {
		p.Classes = append(p.Classes, api.Class{Name: name, Kind: kind, Owner: owner, Parents: parents})
	}
	add("Box", api.IsClass, -1, anyT)
	add("Pair", api.IsTrait, -1, anyT)
	add("Higher", api.IsClass, -1, anyT)
	add("Obj", api.IsObject, -1, anyT)
	add("In", api.IsClass, obj, class(box, param(inC)), class(pair2, field(objF, this(obj)), intT))
	add("Deep", api.IsObject, in, anyT)
	add("+", api.IsClass, deep, anyT)
	add("Box", api.IsObject, -1, anyT)
	add("Leaf", api.IsClass, -1, class(box, intT))
	typeParam := func(name string, ofClass, ofMethod, arity int, lo, hi api.Type) {
		i := len(p.TParams)
		p.TParams = append(p.TParams, api.TypeParam{Name: name, Class: ofClass, Method: ofMethod, Arity: arity, Lo: lo, Hi: hi})
		if ofClass >= 0 {
			p.Classes[ofClass].TParams = append(p.Classes[ofClass].TParams, i)
		}
	}
	typeParam("A", box, -1, 0, nothingT, anyT)
	typeParam("A", pair2, -1, 0, nothingT, array(param(pairB)))
	typeParam("B", pair2, -1, 0, intT, intT)
	typeParam("F", higher, -1, 1, nothingT, lambda(1, array(bound(0, 0))))
	typeParam("C", in, -1, 0, nothingT, anyT)
	typeParam("Int", -1, run, 0, nothingT, class(box, param(inC)))
	typeParam("G", -1, run, 2, nothingT, anyT)
	typeParam("=>", -1, free, 0, nothingT, anyT)
	typeMember := func(name string, owner, arity int, lo, hi api.Type) {
		p.Classes[owner].Types = append(p.Classes[owner].Types, len(p.Types))
		p.Types = append(p.Types, api.TypeMember{Name: name, Owner: owner, Arity: arity, Lo: lo, Hi: hi})
	}
	typeMember("T", box, 0, nothingT, this(box))
	typeMember("U", obj, 1, lambda(1, bound(0, 0)), lambda(1, bound(0, 0)))
	typeMember("V", in, 0, nothingT, apply(member(objU, this(obj)), param(inC)))
	typeField := func(name string, owner, flags int, t api.Type) {
		p.Classes[owner].Fields = append(p.Classes[owner].Fields, len(p.Fields))
		p.Fields = append(p.Fields, api.Field{Name: name, Owner: owner, Flags: flags, Type: t})
	}
	typeField("f", obj, 0, class(box, intT))
	typeField("v", obj, api.Var, intT)
	typeField("l", obj, api.Lazy, this(obj))
	typeField("*:", in, 0, field(objF, this(obj)))
	addMethods(&p)
	return api.Env{P: p, Locals: p.Methods[run].Locals}
}

func addMethods(p *api.Program) {
	body := &api.Tree{}
	p.Methods = []api.Method{
		{Name: "run", Owner: in, TParams: []int{runM, runG}, Params: 3, Body: body, Result: local(runX), Locals: []api.Local{
			{Name: "x", Type: this(obj)},
			{Name: "Array", Type: repeat(apply(param(runG), param(runM), local(runX)))},
			{Name: "u", Flags: api.Using, Type: byName(param(inC))},
			{Name: "z", Type: and(local(runZ), this(in), param(inC))},
			{Name: "w", Flags: api.Var, Type: intT},
			{Name: "q", Flags: api.Lazy, Type: intT},
		}},
		{Name: "free", Owner: -1, TParams: []int{freeX}, Params: 1, Body: body, Result: param(freeX), Locals: []api.Local{
			{Name: "a", Type: repeat(param(freeX))},
			{Name: "b", Type: local(1)},
		}},
		{Name: "m", Owner: plus, Params: 1, Body: body, Result: this(deep), Locals: []api.Local{
			{Name: "a", Type: this(plus)},
			{Name: "b", Type: and(this(in), param(inC), this(obj))},
		}},
	}
	p.Classes[in].Methods = []int{run}
	p.Classes[plus].Methods = []int{plusM}
}

func TestSample(t *testing.T) {
	if f := CheckAll(sample().P); f != (symbols.Fault{}) {
		t.Fatalf("CheckAll of the sample: %v", f)
	}
}

// maker makes random types that Check accepts in an environment.
type maker struct {
	*dice
	env     api.Env
	binders []int // the numbers of variables of the binders around, from the inside on
	inner   int   // how many of them may be used
}

// arity makes a type of an arity, at most so deep.
func (m *maker) arity(arity, depth int) api.Type {
	if arity == 0 {
		return m.proper(depth)
	}
	var l []api.Type
	for i, x := range m.env.P.TParams {
		if x.Arity == arity {
			l = append(l, param(i))
		}
	}
	for i, x := range m.env.P.Types {
		if x.Arity == arity {
			l = append(l, member(i, m.singleton(1)))
		}
	}
	if len(l) == 0 || m.one(2) && depth > 1 {
		return lambda(arity, m.inside(arity, depth-1))
	}
	return l[m.roll(len(l))]
}

// inside makes a proper type inside of a binder.
func (m *maker) inside(num, depth int) api.Type {
	old := m.binders
	m.binders = append([]int{num}, old...)
	t := m.proper(depth)
	m.binders = old
	return t
}

// leaf makes a proper type of one node, or nearly.
func (m *maker) leaf() api.Type {
	switch m.roll(8) {
	case 0:
		return m.singleton(2)
	case 1, 2:
		if sym := m.roll(len(m.binders) + 1); sym < len(m.binders) && m.binders[sym] > 0 {
			return bound(m.roll(m.binders[sym]), sym)
		}
	case 3:
		if i := m.roll(len(m.env.P.TParams)); m.env.P.TParams[i].Arity == 0 {
			return param(i)
		}
	case 4:
		return variable(m.roll(100))
	case 5:
		if i := m.roll(len(m.env.P.Types)); m.env.P.Types[i].Arity == 0 {
			return member(i, m.singleton(2))
		}
	}
	return node(api.TAny + m.roll(9))
}

// singleton makes a singleton type.
func (m *maker) singleton(depth int) api.Type {
	for depth > 1 && m.one(2) {
		if i := m.roll(len(m.env.P.Fields)); isStable(m.env.P.Fields[i].Flags) {
			return field(i, m.singleton(depth-1))
		}
	}
	if len(m.env.Locals) > 0 && m.one(2) {
		if i := m.roll(len(m.env.Locals)); isStable(m.env.Locals[i].Flags) {
			return local(i)
		}
	}
	return this(m.roll(len(m.env.P.Classes)))
}

// some makes a list of n proper types.
func (m *maker) some(n, depth int) []api.Type {
	var l []api.Type
	for range n {
		l = append(l, m.proper(depth))
	}
	return l
}

func (m *maker) proper(depth int) api.Type {
	if depth <= 1 {
		return m.leaf()
	}
	depth--
	switch m.roll(9) {
	case 0:
		return and(m.some(2+m.roll(3), depth)...)
	case 1:
		return or(m.some(2+m.roll(3), depth)...)
	case 2:
		return m.function(depth)
	case 3:
		return array(m.proper(depth))
	case 4:
		n := 1 + m.roll(2)
		return apply(append([]api.Type{m.arity(n, depth)}, m.some(n, depth)...)...)
	case 5:
		return m.matching(depth)
	case 6:
		return refined([]string{"T", "<:", "with", "=>"}[m.roll(4)], m.some(3, depth)...)
	case 7, 8:
		return m.class(depth)
	}
	return m.leaf()
}

func (m *maker) function(depth int) api.Type {
	l := m.some(m.roll(4), depth)
	for i := range l {
		if m.one(4) {
			l[i] = byName(l[i])
		} else if i == len(l)-1 && m.one(3) {
			l[i] = repeat(l[i])
		}
	}
	return fun(append(l, m.proper(depth))...)
}

func (m *maker) matching(depth int) api.Type {
	t := match(m.roll(3), m.proper(depth))
	for range 1 + m.roll(3) {
		t.Args = append(t.Args, m.inside(t.Num, depth), m.inside(t.Num, depth))
	}
	return t
}

func (m *maker) class(depth int) api.Type {
	i := m.roll(len(m.env.P.Classes))
	t := class(i)
	for _, k := range m.env.P.Classes[i].TParams {
		arg := m.arity(m.env.P.TParams[k].Arity, depth)
		if m.one(4) {
			arg = wild(m.proper(depth), m.proper(depth))
		}
		t.Args = append(t.Args, arg)
	}
	return t
}

// raw makes any type, also one that nothing accepts.
func (d *dice) raw(depth int) api.Type {
	t := api.Type{Kind: d.roll(api.TKinds+3) - 1, Num: d.roll(4) - 1, Sym: d.roll(4) - 1}
	switch d.roll(12) {
	case 0:
		t.Name = "T"
	case 1:
		t.Num = d.roll(1 << 20)
	case 2:
		t.Sym = d.roll(1 << 20)
	}
	if depth > 1 {
		for range d.roll(5) {
			t.Args = append(t.Args, d.raw(depth-1))
		}
	}
	return t
}

// spoilt changes one node of a type.
func (d *dice) spoilt(t api.Type) api.Type {
	t = deepCopy(t)
	p := pick(&t, d.roll(Size(t)))
	switch d.roll(8) {
	case 0:
		p.Kind = d.roll(api.TKinds+3) - 1
	case 1:
		p.Sym += d.roll(5) - 2
	case 2:
		p.Num += d.roll(5) - 2
	case 3:
		p.Name = []string{"", "T", "1", "a b"}[d.roll(4)]
	case 4:
		if len(p.Args) > 0 {
			p.Args = slices.Delete(p.Args, 0, 1)
		}
	case 5:
		p.Args = append(p.Args, d.raw(2))
	case 6:
		*p = d.raw(2)
	case 7:
		*p = node([]int{api.TByName, api.TRepeat, api.TArray}[d.roll(3)], *p)
	}
	return t
}

// pick returns the node with a number in preorder.
func pick(t *api.Type, number int) *api.Type {
	if number == 0 {
		return t
	}
	number--
	for i := range t.Args {
		if n := countNodes(t.Args[i]); number >= n {
			number -= n
			continue
		}
		return pick(&t.Args[i], number)
	}
	return nil
}

func countNodes(t api.Type) int {
	n := 1
	for _, x := range t.Args {
		n += countNodes(x)
	}
	return n
}

func deepCopy(t api.Type) api.Type {
	var args []api.Type
	for _, x := range t.Args {
		args = append(args, deepCopy(x))
	}
	t.Args = args
	return t
}

// same compares two types node by node.
func same(a, b api.Type) bool {
	if a.Kind != b.Kind || a.Sym != b.Sym || a.Name != b.Name || a.Num != b.Num || len(a.Args) != len(b.Args) {
		return false
	}
	for i := range a.Args {
		if !same(a.Args[i], b.Args[i]) {
			return false
		}
	}
	return true
}

// show writes any type.
func show(t api.Type) string {
	var b strings.Builder
	b.WriteString("{" + api.Errno(t.Kind).Error())
	if t.Sym != 0 {
		b.WriteString(" s" + api.Errno(t.Sym).Error())
	}
	if t.Num != 0 {
		b.WriteString(" n" + api.Errno(t.Num).Error())
	}
	if t.Name != "" {
		b.WriteString(" " + t.Name)
	}
	for i, x := range t.Args {
		if i == 20 {
			b.WriteString(" ..")
			break
		}
		b.WriteString(" " + show(x))
	}
	b.WriteString("}")
	return b.String()
}

func wantType(t *testing.T, what string, got, want api.Type) {
	t.Helper()
	if !same(got, want) {
		t.Errorf("%s = %s, want %s", what, show(got), show(want))
	}
}

func wantCode(t *testing.T, what string, got, want api.Errno) {
	t.Helper()
	if got != want {
		t.Errorf("%s: %v, want %v", what, got, want)
	}
}

// wantZero wants that nothing stands beside an error.
func wantZero(t *testing.T, what string, l ...api.Type) {
	t.Helper()
	for _, x := range l {
		if !same(x, api.Type{}) {
			t.Errorf("%s: %s beside an error", what, show(x))
		}
	}
}
