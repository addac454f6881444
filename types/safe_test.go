package types

import (
	"testing"

	"newel/api"
)

var sentinel = api.Type{Kind: 77, Name: "behind the end"}

// roomy returns a copy of a type with something behind the end of each list.
func roomy(t api.Type) api.Type {
	args := make([]api.Type, 0, len(t.Args)+1)
	for _, x := range t.Args {
		args = append(args, roomy(x))
	}
	t.Args = append(args, sentinel)[:len(args)]
	return t
}

// wantKept wants that a roomy type is what it was.
func wantKept(t *testing.T, what string, x, old api.Type) {
	t.Helper()
	if !same(x, old) {
		t.Fatalf("%s changed its argument %s to %s", what, show(old), show(x))
	}
	everywhere(x, func(y api.Type) bool {
		if behind := y.Args[:len(y.Args)+1][len(y.Args)]; !same(behind, sentinel) {
			t.Fatalf("%s changed what stands behind the end of %s", what, show(y))
		}
		return true
	})
}

// lists adds the lists of a type that are not empty to a set, and wants that
// they are new.
func wantNew(t *testing.T, what string, x api.Type, seen map[*api.Type]bool) {
	t.Helper()
	everywhere(x, func(y api.Type) bool {
		if len(y.Args) > 0 {
			if seen[&y.Args[0]] {
				t.Fatalf("%s returns memory that it has used before: %s", what, show(y))
			}
			seen[&y.Args[0]] = true
		}
		return true
	})
}

// R4: no function changes an argument, and results share no memory with
// arguments, nor among themselves.
func TestMemory(t *testing.T) {
	d := dice(41)
	env := sample()
	for range 3000 {
		m := maker{dice: &d, env: env, binders: []int{2, 2}}
		var x, y api.Type
		if d.one(3) {
			x, y = d.raw(3), d.mixed(3)
		} else {
			x, y = m.proper(4), m.proper(3)
		}
		num := 1 + d.roll(2)
		calls := []func(x, y api.Type) []api.Type{
			func(x, y api.Type) []api.Type {
				r, _ := Subst(x, []int{0, 1, 2}, []api.Type{y, y, x})
				return []api.Type{r}
			},
			func(x, y api.Type) []api.Type {
				r, _ := Open(lambda(2, x), []api.Type{y, y})
				return []api.Type{r}
			},
			func(x, y api.Type) []api.Type {
				p, b, _ := OpenCase(match(num, x, x, y), 0, times(num, y))
				return []api.Type{p, b}
			},
			func(x, y api.Type) []api.Type {
				r, _ := Normal(and(x, or(y, y, x), apply(lambda(1, x), y), y))
				return []api.Type{r}
			},
			func(x, y api.Type) []api.Type {
				Check(env, x)
				Size(x)
				Depth(x)
				Compare(x, y)
				Free(x)
				Vars(x)
				Text(env, x)
				return nil
			},
		}
		x, y = roomy(x), roomy(y)
		oldX, oldY := deepCopy(x), deepCopy(y)
		for _, call := range calls {
			results := call(x, y)
			wantKept(t, "a function", x, oldX)
			wantKept(t, "a function", y, oldY)
			seen := map[*api.Type]bool{}
			everywhere(x, func(z api.Type) bool { seen[&z.Args[:1][0]] = true; return true })
			everywhere(y, func(z api.Type) bool { seen[&z.Args[:1][0]] = true; return true })
			for _, r := range results {
				wantNew(t, "a function", r, seen)
			}
		}
	}
}

// R4: the tables of an environment are not changed either.
func TestMemoryOfPrograms(t *testing.T) {
	env := sample()
	env.P.Classes[in].Parents[1].Args = append(env.P.Classes[in].Parents[1].Args, sentinel)[:2]
	parents := env.P.Classes[in].Parents
	CheckAll(env.P)
	x, _ := Read(env, "this(Obj#).f@0")
	if !same(parents[1], class(pair2, field(objF, this(obj)), intT)) || !same(parents[1].Args[:3][2], sentinel) {
		t.Errorf("CheckAll changed a parent: %s", show(parents[1]))
	}
	x.Args[0] = intT
	if y, _ := Read(env, "this(Obj#).f@0"); !same(y, field(objF, this(obj))) {
		t.Errorf("Read returns what it has returned before: %s", show(y))
	}
}

// tangled returns types whose lists are shared or cyclic, of each kind.
func tangled() []api.Type {
	var l []api.Type
	for kind := -1; kind <= api.TKinds; kind++ {
		l = append(l, cyclic(kind))
		x := api.Type{Kind: kind, Num: 1}
		for range 70 {
			x.Args = []api.Type{x, x, x}
		}
		l = append(l, x)
		list := make([]api.Type, 3)
		list[0] = api.Type{Kind: kind, Args: list[:1]}
		list[1] = api.Type{Kind: kind, Args: list[1:]}
		list[2] = api.Type{Kind: kind, Args: list}
		l = append(l, list[0], list[1], list[2])
	}
	return append(l, arrays(1<<17, intT), fun(times(1<<17, intT)...))
}

// P1: every function ends without a panic, for types of any form, and beside an
// error stands nothing.
func TestAnyTypes(t *testing.T) {
	d := dice(42)
	env := sample()
	envs := []api.Env{env, {}, {P: api.Program{Main: 5}, Locals: env.Locals}}
	l := tangled()
	for range 3000 {
		l = append(l, d.raw(1+d.roll(5)))
	}
	for i, x := range l {
		y := l[d.roll(len(l))]
		e := envs[i%len(envs)]
		Size(x)
		Depth(x)
		Arity(e, x)
		Free(x)
		Vars(x)
		Equal(x, y)
		code := Check(e, x)
		if s, textCode := Text(e, x); code != api.OK && textCode != code || textCode != api.OK && s != "" {
			t.Errorf("Text = %q, %v, but Check = %v", s, textCode, code)
		}
		r, code := Normal(x)
		wantBoth(t, "Normal", code, r)
		r, code = Subst(x, []int{0, 1}, []api.Type{y, x})
		wantBoth(t, "Subst", code, r)
		r, code = Open(x, []api.Type{y})
		wantBoth(t, "Open", code, r)
		p, b, code := OpenCase(x, d.roll(3)-1, times(d.roll(3), y))
		wantBoth(t, "OpenCase", code, p, b)
	}
}

// wantBoth wants zero values beside an error, and results within the limits
// without one.
func wantBoth(t *testing.T, what string, code api.Errno, l ...api.Type) {
	t.Helper()
	for _, x := range l {
		if code != api.OK && (x.Kind != 0 || x.Sym != 0 || x.Num != 0 || x.Name != "" || len(x.Args) != 0) {
			t.Errorf("%s returns a type beside the error %v", what, code)
		}
		if code == api.OK && (Size(x) > MaxSize || Depth(x) > api.MaxNest) {
			t.Errorf("%s returns a type beyond the limits", what)
		}
	}
}

// P1: programs of any form.
func TestAnyPrograms(t *testing.T) {
	d := dice(43)
	for range 3000 {
		env := sample()
		p := copied(env.P)
		index := func() int { return d.roll(12) - 2 }
		for range 1 + d.roll(4) {
			switch d.roll(6) {
			case 0:
				k := &p.Classes[d.roll(len(p.Classes))]
				k.Owner, k.TParams = index(), []int{index(), index()}
			case 1:
				k := &p.Classes[d.roll(len(p.Classes))]
				k.Parents = []api.Type{d.raw(3), d.raw(3)}
			case 2:
				x := &p.TParams[d.roll(len(p.TParams))]
				x.Class, x.Method, x.Arity, x.Lo = index(), index(), index(), d.raw(3)
			case 3:
				x := &p.Types[d.roll(len(p.Types))]
				x.Owner, x.Arity, x.Hi = index(), index(), d.raw(3)
			case 4:
				m := &p.Methods[d.roll(len(p.Methods))]
				m.Owner, m.Params, m.Result = index(), index(), d.raw(3)
			case 5:
				f := &p.Fields[d.roll(len(p.Fields))]
				f.Owner, f.Flags, f.Type = index(), d.roll(1<<15), d.raw(3)
			}
		}
		CheckAll(p)
		env.P = p
		m := maker{dice: &d, env: sample()}
		x := m.proper(4)
		if s, code := Text(env, x); code == api.OK {
			Read(env, s)
		}
		s, _ := Text(sample(), x)
		wantSame(t, env, s)
	}
}
