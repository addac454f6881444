package types

import (
	"slices"
	"strconv"
	"testing"

	"newel/api"
)

// typeCase is a type with what Check says of it.
type typeCase struct {
	what string
	t    api.Type
	want api.Errno
}

func wantChecks(t *testing.T, cases []typeCase) {
	t.Helper()
	env := sample()
	for _, c := range cases {
		wantCode(t, "Check of "+c.what, Check(env, c.t), c.want)
	}
}

// P7.1: Check accepts types of all kinds.
func TestCheckAccepts(t *testing.T) {
	wantChecks(t, []typeCase{
		{"Any", anyT, api.OK}, {"Nothing", nothingT, api.OK}, {"Null", nullT, api.OK}, {"Unit", unitT, api.OK},
		{"Boolean", booleanT, api.OK}, {"Char", charT, api.OK}, {"Int", intT, api.OK}, {"Long", longT, api.OK}, {"String", stringT, api.OK},
		{"a class", class(obj), api.OK},
		{"a class with an argument", class(box, intT), api.OK},
		{"a class with wildcards", class(pair2, wild(nothingT, intT), wild(intT, anyT)), api.OK},
		{"a class of a type function", class(higher, lambda(1, bound(0, 0))), api.OK},
		{"a class of a type member", class(higher, member(objU, this(obj))), api.OK},
		{"a class of a wildcard for a type function", class(higher, wild(nothingT, anyT)), api.OK},
		{"a type parameter", param(inC), api.OK},
		{"a type function", param(runG), api.OK},
		{"a type member", member(boxT, this(box)), api.OK},
		{"a type member of a local", member(boxT, local(runX)), api.OK},
		{"a type member of a field", member(boxT, field(objF, this(obj))), api.OK},
		{"this", this(deep), api.OK},
		{"a local", local(runZ), api.OK},
		{"a field of a field", field(objF, field(inOp, local(runX))), api.OK},
		{"and", and(intT, anyT), api.OK},
		{"or", or(intT, anyT, nullT), api.OK},
		{"a function", fun(intT, anyT), api.OK},
		{"a function without parameters", fun(intT), api.OK},
		{"an array", array(intT), api.OK},
		{"by name", byName(intT), api.OK},
		{"repeated", repeat(intT), api.OK},
		{"a function with all kinds of parameters", fun(byName(intT), byName(anyT), repeat(longT), intT), api.OK},
		{"a function by name alone", fun(byName(intT), intT), api.OK},
		{"a lambda", lambda(2, class(pair2, bound(0, 0), bound(1, 0))), api.OK},
		{"an applied lambda", apply(lambda(1, bound(0, 0)), intT), api.OK},
		{"an applied parameter", apply(param(runG), intT, anyT), api.OK},
		{"an applied member", apply(member(objU, this(obj)), intT), api.OK},
		{"a match type", match(1, intT, array(bound(0, 0)), bound(0, 0)), api.OK},
		{"a match type without variables", match(0, intT, intT, anyT, anyT, nothingT), api.OK},
		{"a refinement", refined("T", class(obj), nothingT, intT), api.OK},
		{"a type variable", variable(7), api.OK},
	})
}

// P7.1: rule 1.
func TestCheckKinds(t *testing.T) {
	wantChecks(t, []typeCase{
		{"the zero type", api.Type{}, api.ErrKind},
		{"a kind below 0", node(-1), api.ErrKind},
		{"the number of kinds", node(api.TKinds), api.ErrKind},
		{"a great kind", node(1 << 40), api.ErrKind},
		{"an array of no type", array(node(api.TNone)), api.ErrKind},
	})
}

// P7.1: rule 2: fields that a kind does not use.
func TestCheckFields(t *testing.T) {
	used := map[int]string{
		api.TClass: "s", api.TParam: "s", api.TMember: "s", api.TThis: "s", api.TLocal: "s", api.TField: "s",
		api.TBound: "sn", api.TRefine: "m", api.TLambda: "n", api.TMatch: "n", api.TVar: "n",
	}
	env := sample()
	for kind := api.TAny; kind < api.TKinds; kind++ {
		for _, f := range []string{"s", "n", "m"} {
			x := example(kind)
			switch f {
			case "s":
				x.Sym = 1 << 30
			case "n":
				x.Num = 1 << 30
			case "m":
				x.Name = "1"
			}
			want := api.ErrForm
			if slices.Contains([]byte(used[kind]), f[0]) {
				want = api.ErrRange
				if f == "m" {
					want = api.ErrInvalid
				}
			}
			// A TWild is wrong by itself behind this rule, and so is a TBound.
			wantCode(t, "Check of kind "+strconv.Itoa(kind)+" with field "+f, Check(env, x), want)
		}
	}
}

// example returns a type of a kind with the form of the kind.
func example(kind int) api.Type {
	l := map[int]api.Type{
		api.TClass: class(obj), api.TMember: member(boxT, this(box)), api.TField: field(objF, this(obj)),
		api.TAnd: and(intT, anyT), api.TOr: or(intT, anyT), api.TFun: fun(intT), api.TArray: array(intT),
		api.TByName: byName(intT), api.TRepeat: repeat(intT), api.TLambda: lambda(1, intT),
		api.TApply: apply(lambda(1, intT), intT), api.TMatch: match(0, intT, intT, intT),
		api.TRefine: refined("T", intT, intT, intT), api.TWild: wild(intT, intT),
	}
	if t, ok := l[kind]; ok {
		return t
	}
	return node(kind)
}

// P7.1: rule 2: numbers of Args.
func TestCheckNumbers(t *testing.T) {
	permitted := func(kind, n int) bool {
		switch kind {
		case api.TMember, api.TField, api.TArray, api.TByName, api.TRepeat, api.TLambda:
			return n == 1
		case api.TWild:
			return n == 2
		case api.TRefine:
			return n == 3
		case api.TAnd, api.TOr:
			return n >= 2 && n <= 20
		case api.TFun:
			return n >= 1 && n <= 13
		case api.TApply:
			return n >= 2 && n <= 13
		case api.TMatch:
			return n >= 3 && n <= 41 && n%2 == 1
		case api.TClass:
			return true
		}
		return n == 0
	}
	env := sample()
	for kind := api.TAny; kind < api.TKinds; kind++ {
		for n := range 60 {
			x := example(kind)
			x.Args = times(n, intT)
			if got := Check(env, x) != api.ErrForm; got != permitted(kind, n) {
				t.Errorf("kind %d with %d Args: form %v, want %v", kind, n, got, !got)
			}
		}
	}
	wantChecks(t, []typeCase{
		{"20 parts of and", and(times(20, intT)...), api.OK},
		{"21 parts of and", and(times(21, intT)...), api.ErrForm},
		{"20 parts of or", or(times(20, intT)...), api.OK},
		{"21 parts of or", or(times(21, intT)...), api.ErrForm},
		{"12 parameters", fun(times(13, intT)...), api.OK},
		{"13 parameters", fun(times(14, intT)...), api.ErrForm},
		{"12 arguments", apply(append([]api.Type{lambda(12, intT)}, times(12, intT)...)...), api.OK},
		{"13 arguments", apply(append([]api.Type{lambda(12, intT)}, times(13, intT)...)...), api.ErrForm},
		{"20 cases", match(0, times(41, intT)...), api.OK},
		{"21 cases", match(0, times(43, intT)...), api.ErrForm},
		{"half a case", match(0, times(40, intT)...), api.ErrForm},
	})
}

// P7.1: rule 3.
func TestCheckRanges(t *testing.T) {
	wantChecks(t, []typeCase{
		{"a class below 0", class(-1), api.ErrRange},
		{"no class", class(leaf + 1), api.ErrRange},
		{"this of no class", this(leaf + 1), api.ErrRange},
		{"this of a class below 0", this(-1), api.ErrRange},
		{"no type parameter", param(freeX + 1), api.ErrRange},
		{"a type parameter below 0", param(-1), api.ErrRange},
		{"no type member", member(inV+1, this(obj)), api.ErrRange},
		{"a type member below 0", member(-1, this(obj)), api.ErrRange},
		{"no local", local(runLazy + 1), api.ErrRange},
		{"a local below 0", local(-1), api.ErrRange},
		{"no field", field(inOp+1, this(obj)), api.ErrRange},
		{"a field below 0", field(-1, this(obj)), api.ErrRange},
		{"a lambda without variables", lambda(0, intT), api.ErrRange},
		{"a lambda with one variable", lambda(1, intT), api.OK},
		{"a lambda with 12 variables", lambda(12, bound(11, 0)), api.OK},
		{"a lambda with 13 variables", lambda(13, intT), api.ErrRange},
		{"a match with -1 variables", match(-1, intT, intT, intT), api.ErrRange},
		{"a match with 12 variables", match(12, intT, bound(11, 0), bound(0, 0)), api.OK},
		{"a match with 13 variables", match(13, intT, intT, intT), api.ErrRange},
		{"a variable below 0", variable(-1), api.ErrRange},
		{"the first variable", variable(0), api.OK},
		{"the last variable", variable(99), api.OK},
		{"a variable behind the last one", variable(100), api.ErrRange},
		{"a free bound", bound(0, 0), api.ErrRange},
		{"a bound of a binder further out than there are", lambda(1, bound(0, 1)), api.ErrRange},
		{"a bound of a binder below 0", lambda(1, bound(0, -1)), api.ErrRange},
		{"a bound below 0", lambda(1, bound(-1, 0)), api.ErrRange},
		{"a bound behind the last one", lambda(2, bound(2, 0)), api.ErrRange},
		{"the last bound", lambda(2, bound(1, 0)), api.OK},
		{"a bound in a scrutinee", match(1, bound(0, 0), intT, intT), api.ErrRange},
		{"a bound in a pattern", match(1, intT, bound(0, 0), intT), api.OK},
		{"a bound in a body", match(1, intT, intT, bound(0, 0)), api.OK},
		{"a bound in a case without variables", match(0, intT, intT, bound(0, 0)), api.ErrRange},
		{"a case without variables is a binder", lambda(1, match(0, bound(0, 0), bound(0, 1), bound(0, 1))), api.OK},
		{"an outer binder with more variables", lambda(1, match(2, bound(0, 0), bound(1, 0), bound(0, 1))), api.OK},
		{"an outer binder with fewer variables", lambda(1, match(2, bound(0, 0), bound(1, 0), bound(1, 1))), api.ErrRange},
		{"a lambda in an application", apply(lambda(1, bound(0, 0)), bound(0, 0)), api.ErrRange},
	})
	env := sample()
	wantCode(t, "a local without locals", Check(api.Env{P: env.P}, local(0)), api.ErrRange)
	env.P.Classes = slices.Clone(env.P.Classes)
	env.P.Classes[box].TParams = []int{freeX + 1}
	wantCode(t, "a class whose type parameter does not exist", Check(env, class(box)), api.ErrRange)
	wantCode(t, "this of such a class", Check(env, this(box)), api.OK)
	env.P.Classes[box].TParams = []int{boxA, -1}
	wantCode(t, "a class with a type parameter below 0", Check(env, class(box, intT)), api.ErrRange)
}

// P7.1: rule 4.
func TestCheckArities(t *testing.T) {
	f := lambda(1, bound(0, 0))
	wantChecks(t, []typeCase{
		{"a class with an argument too many", class(obj, intT), api.ErrArity},
		{"a class without its argument", class(box), api.ErrArity},
		{"a class with one of two arguments", class(pair2, intT), api.ErrArity},
		{"a class with a type function for a type", class(box, f), api.ErrArity},
		{"a class with a type for a type function", class(higher, intT), api.ErrArity},
		{"a class with another type function", class(higher, param(runG)), api.ErrArity},
		{"a class with a type function as the second one", class(pair2, intT, f), api.ErrArity},
		{"a type applied", apply(intT, intT), api.ErrArity},
		{"a type parameter applied", apply(param(boxA), intT), api.ErrArity},
		{"too few arguments", apply(param(runG), intT), api.ErrArity},
		{"too many arguments", apply(f, intT, intT), api.ErrArity},
		{"a type function as an argument", apply(f, f), api.ErrArity},
		{"a type function as the last argument", apply(param(runG), intT, f), api.ErrArity},
		{"an application applied", apply(apply(f, intT), intT), api.ErrArity},
		{"a lambda of a lambda", lambda(1, f), api.ErrArity},
		{"an array of a type function", array(f), api.ErrArity},
		{"by name of a type function", byName(param(higherF)), api.ErrArity},
		{"a repeated type function", repeat(f), api.ErrArity},
		{"a parameter that is a type function", fun(f, intT), api.ErrArity},
		{"a result that is a type function", fun(intT, f), api.ErrArity},
		{"and with a type function", and(intT, f), api.ErrArity},
		{"or with a type function", or(f, intT), api.ErrArity},
		{"a scrutinee that is a type function", match(0, f, intT, intT), api.ErrArity},
		{"a pattern that is a type function", match(0, intT, f, intT), api.ErrArity},
		{"a body that is a type function", match(0, intT, intT, f), api.ErrArity},
		{"a refined type function", refined("T", f, intT, intT), api.ErrArity},
		{"a bound of a refinement", refined("T", intT, intT, member(objU, this(obj))), api.ErrArity},
		{"a bound of a wildcard", class(higher, wild(nothingT, f)), api.ErrArity},
		{"a prefix that is a type function", member(boxT, f), api.ErrArity},
		{"the prefix of a field that is a type function", field(objF, f), api.ErrArity},
	})
}

// P7.1: rule 5.
func TestCheckInvalid(t *testing.T) {
	wantChecks(t, []typeCase{
		{"a member of a class", member(boxT, class(obj)), api.ErrInvalid},
		{"a member of a member", member(boxT, member(boxT, this(box))), api.ErrInvalid},
		{"a field of a class", field(objF, class(obj)), api.ErrInvalid},
		{"a field of a type parameter", field(objF, param(boxA)), api.ErrInvalid},
		{"a local with Var", local(runVar), api.ErrInvalid},
		{"a lazy local", local(runLazy), api.ErrInvalid},
		{"a Using local", local(runU), api.OK},
		{"a field with Var", field(objVar, this(obj)), api.ErrInvalid},
		{"a lazy field", field(objLazy, this(obj)), api.ErrInvalid},
		{"an array of by name", array(byName(intT)), api.ErrInvalid},
		{"an array of repeated", array(repeat(intT)), api.ErrInvalid},
		{"by name of by name", byName(byName(intT)), api.ErrInvalid},
		{"repeated of by name", repeat(byName(intT)), api.ErrInvalid},
		{"by name of repeated", byName(repeat(intT)), api.ErrInvalid},
		{"a result by name", fun(intT, byName(intT)), api.ErrInvalid},
		{"a result by name without parameters", fun(byName(intT)), api.ErrInvalid},
		{"a repeated result", fun(intT, repeat(intT)), api.ErrInvalid},
		{"a repeated result without parameters", fun(repeat(intT)), api.ErrInvalid},
		{"a repeated parameter in front of another one", fun(repeat(intT), intT, intT), api.ErrInvalid},
		{"and with by name", and(intT, byName(intT)), api.ErrInvalid},
		{"an argument by name", class(box, byName(intT)), api.ErrInvalid},
		{"a wildcard", wild(intT, intT), api.ErrInvalid},
		{"an array of a wildcard", array(wild(nothingT, anyT)), api.ErrInvalid},
		{"an applied wildcard", apply(lambda(1, intT), wild(nothingT, anyT)), api.ErrInvalid},
		{"a wildcard in a wildcard", class(box, wild(wild(intT, intT), anyT)), api.ErrInvalid},
		{"a refinement without a name", refined("", intT, intT, intT), api.ErrInvalid},
		{"a refinement of a name with a digit", refined("1", intT, intT, intT), api.ErrInvalid},
		{"a refinement of a name with a blank", refined("a b", intT, intT, intT), api.ErrInvalid},
		{"a refinement of an operator", refined("=>", intT, intT, intT), api.OK},
	})
}

// P7.1: of several errors the first one by the nodes, and of one node the first
// one by the rules.
func TestCheckOrder(t *testing.T) {
	f := lambda(1, bound(0, 0))
	noForm := api.Type{Kind: api.TInt, Sym: 1}
	wantChecks(t, []typeCase{
		{"an unknown kind with a name", api.Type{Kind: 99, Name: "x"}, api.ErrKind},
		{"a form ahead of a range", api.Type{Kind: api.TClass, Sym: 99, Num: 1}, api.ErrForm},
		{"a range ahead of an arity", class(99, f), api.ErrRange},
		{"an arity ahead of an invalid type", member(boxT, f), api.ErrArity},
		{"a node ahead of its Args", class(99, node(99)), api.ErrRange},
		{"an arity ahead of the form of an argument", class(obj, noForm), api.ErrArity},
		{"an invalid node ahead of its Args", member(boxT, array(node(99))), api.ErrInvalid},
		{"a lambda with a wrong form counts as one", array(api.Type{Kind: api.TLambda, Num: 1}), api.ErrArity},
		{"a lambda without variables is proper", array(api.Type{Kind: api.TLambda}), api.ErrForm},
		{"a type parameter that does not exist is proper", array(param(99)), api.ErrRange},
		{"a type member that does not exist is proper", array(member(99, this(obj))), api.ErrRange},
		{"the first of two Args", or(noForm, node(99)), api.ErrForm},
		{"the second of two Args", or(intT, node(99)), api.ErrKind},
		{"what is deeper but further in front", or(array(this(99)), node(99)), api.ErrRange},
	})
}

// P7.1: the limits are ahead of all other errors.
func TestCheckLimits(t *testing.T) {
	wantChecks(t, []typeCase{
		{"2000 nodes", wide(MaxSize), api.OK},
		{"2001 nodes", wide(MaxSize + 1), api.ErrLimit},
		{"64 levels", arrays(api.MaxNest-1, intT), api.OK},
		{"65 levels", arrays(api.MaxNest, intT), api.ErrDepth},
		{"both", arrays(api.MaxNest, wide(MaxSize)), api.ErrLimit},
		{"too many nodes of a wrong type", wideOf(MaxSize+1, node(99)), api.ErrLimit},
		{"a wrong type too deep", arrays(api.MaxNest, node(99)), api.ErrDepth},
		{"a wrong type around what is too deep", api.Type{Kind: 99, Args: []api.Type{arrays(api.MaxNest, intT)}}, api.ErrDepth},
	})
}

// P7.1: Arity.
func TestArity(t *testing.T) {
	env := sample()
	for _, c := range []struct {
		t    api.Type
		want int
	}{
		{lambda(3, intT), 3}, {lambda(-2, intT), -2}, {param(boxA), 0}, {param(higherF), 1}, {param(runG), 2},
		{member(boxT, this(box)), 0}, {member(objU, this(obj)), 1}, {member(objU), 1},
		{param(99), 0}, {param(-1), 0}, {member(99), 0}, {member(-1), 0},
		{match(3, intT, intT, intT), 0}, {variable(3), 0}, {class(higher, lambda(1, intT)), 0}, {api.Type{Num: 3}, 0},
		{apply(param(runG), intT, intT), 0}, {bound(3, 0), 0},
	} {
		if got := Arity(env, c.t); got != c.want {
			t.Errorf("Arity(%s) = %d, want %d", show(c.t), got, c.want)
		}
	}
}

// oracle looks at the nodes of a type in preorder, with the numbers of
// variables of the binders around a node, and returns the first error. It says
// the rules anew, one by one.
type oracle struct{ env api.Env }

func (o oracle) check(t api.Type, parent *api.Type, index int, binders []int) api.Errno {
	if t.Kind <= api.TNone || t.Kind >= api.TKinds {
		return api.ErrKind
	}
	rules := []func() api.Errno{
		func() api.Errno { return o.form(t) },
		func() api.Errno { return o.ranges(t, binders) },
		func() api.Errno { return o.arities(t) },
		func() api.Errno { return o.valid(t, parent, index) },
	}
	for _, rule := range rules {
		if code := rule(); code != api.OK {
			return code
		}
	}
	for i, x := range t.Args {
		inside := binders
		if t.Kind == api.TLambda || t.Kind == api.TMatch && i > 0 {
			inside = append([]int{t.Num}, binders...)
		}
		if code := o.check(x, &t, i, inside); code != api.OK {
			return code
		}
	}
	return api.OK
}

func (o oracle) form(t api.Type) api.Errno {
	n := len(t.Args)
	count, sym, num, name := n == 0, false, false, false
	switch t.Kind {
	case api.TClass:
		count, sym = true, true
	case api.TParam, api.TThis, api.TLocal:
		sym = true
	case api.TMember, api.TField:
		count, sym = n == 1, true
	case api.TAnd, api.TOr:
		count = n > 1 && n < 21
	case api.TFun:
		count = n > 0 && n < 14
	case api.TArray, api.TByName, api.TRepeat:
		count = n == 1
	case api.TLambda:
		count, num = n == 1, true
	case api.TBound:
		sym, num = true, true
	case api.TApply:
		count = n > 1 && n < 14
	case api.TMatch:
		count, num = n > 2 && n < 42 && n%2 == 1, true
	case api.TRefine:
		count, name = n == 3, true
	case api.TWild:
		count = n == 2
	case api.TVar:
		num = true
	}
	if !count || t.Sym != 0 && !sym || t.Num != 0 && !num || t.Name != "" && !name {
		return api.ErrForm
	}
	return api.OK
}

func (o oracle) ranges(t api.Type, binders []int) api.Errno {
	from, to, n := 0, 1<<60, t.Sym
	switch t.Kind {
	case api.TClass, api.TThis:
		to = len(o.env.P.Classes)
	case api.TParam:
		to = len(o.env.P.TParams)
	case api.TMember:
		to = len(o.env.P.Types)
	case api.TLocal:
		to = len(o.env.Locals)
	case api.TField:
		to = len(o.env.P.Fields)
	case api.TLambda:
		from, to, n = 1, 13, t.Num
	case api.TMatch:
		to, n = 13, t.Num
	case api.TVar:
		to, n = 100, t.Num
	case api.TBound:
		if t.Sym < 0 || t.Sym >= len(binders) {
			return api.ErrRange
		}
		to, n = binders[t.Sym], t.Num
	}
	if n < from || n >= to {
		return api.ErrRange
	}
	return api.OK
}

func (o oracle) arities(t api.Type) api.Errno {
	want := make([]int, len(t.Args))
	if t.Kind == api.TApply {
		want[0] = len(t.Args) - 1
	}
	if t.Kind == api.TClass {
		params := o.env.P.Classes[t.Sym].TParams
		if len(params) != len(t.Args) {
			return api.ErrArity
		}
		for i, k := range params {
			want[i] = o.env.P.TParams[k].Arity
		}
	}
	for i, x := range t.Args {
		if Arity(o.env, x) != want[i] && (t.Kind != api.TClass || x.Kind != api.TWild) {
			return api.ErrArity
		}
	}
	return api.OK
}

func (o oracle) valid(t api.Type, parent *api.Type, index int) api.Errno {
	ok := true
	singleton := func(x api.Type) bool {
		return slices.Contains([]int{api.TThis, api.TLocal, api.TField}, x.Kind)
	}
	flags := 0
	switch t.Kind {
	case api.TMember:
		ok = singleton(t.Args[0])
	case api.TField:
		ok = singleton(t.Args[0])
		flags = o.env.P.Fields[t.Sym].Flags
	case api.TLocal:
		flags = o.env.Locals[t.Sym].Flags
	case api.TByName:
		ok = parent == nil || parent.Kind == api.TFun && index < len(parent.Args)-1
	case api.TRepeat:
		ok = parent == nil || parent.Kind == api.TFun && index == len(parent.Args)-2
	case api.TWild:
		ok = parent != nil && parent.Kind == api.TClass
	case api.TRefine:
		ok = slices.Contains([]string{"T", "<:", "with", "=>"}, t.Name)
	}
	if !ok || flags&api.Var != 0 || flags&api.Lazy != 0 {
		return api.ErrInvalid
	}
	return api.OK
}

// P7.1: random right types are accepted, and random spoilt ones have the error
// that the oracle finds.
func TestCheckRandom(t *testing.T) {
	d := dice(7)
	env := sample()
	found := map[api.Errno]int{}
	for range 20000 {
		m := maker{dice: &d, env: env}
		x := m.arity(d.roll(3), 1+d.roll(5))
		if Size(x) > MaxSize {
			continue
		}
		if code := Check(env, x); code != api.OK {
			t.Fatalf("Check(%s): %v", show(x), code)
		}
		for range 1 + d.roll(2) {
			x = d.spoilt(x)
		}
		if Size(x) > MaxSize {
			continue
		}
		got, want := Check(env, x), oracle{env}.check(x, nil, 0, nil)
		if got != want {
			t.Fatalf("Check(%s): %v, want %v", show(x), got, want)
		}
		found[got]++
	}
	for _, code := range []api.Errno{api.OK, api.ErrKind, api.ErrForm, api.ErrRange, api.ErrArity, api.ErrInvalid} {
		if found[code] < 100 {
			t.Errorf("%d types with the error %v: too few", found[code], code)
		}
	}
}
