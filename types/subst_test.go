package types

import (
	"strconv"
	"testing"

	"newel/api"
)

// P7.2: Subst.
func TestSubst(t *testing.T) {
	inside := func(x api.Type) api.Type {
		return lambda(1, match(2, x, x, x))
	}
	for _, c := range []struct {
		what    string
		t       api.Type
		params  []int
		args    []api.Type
		want    api.Type
		wantErr api.Errno
	}{
		{"nothing", array(param(1)), nil, nil, array(param(1)), api.OK},
		{"a parameter", array(param(1)), []int{1}, []api.Type{intT}, array(intT), api.OK},
		{"the type itself", param(1), []int{1}, []api.Type{array(intT)}, array(intT), api.OK},
		{"another parameter", param(1), []int{2}, []api.Type{intT}, param(1), api.OK},
		{"two at once", fun(param(1), param(2), param(1)), []int{2, 1}, []api.Type{param(1), param(2)}, fun(param(2), param(1), param(2)), api.OK},
		{"another kind with the Sym", fun(class(1), this(1), local(1), bound(0, 1), param(1)), []int{1}, []api.Type{intT},
			fun(class(1), this(1), local(1), bound(0, 1), intT), api.OK},
		{"a parameter that does not exist", param(-5), []int{-5}, []api.Type{intT}, intT, api.OK},
		{"a parameter with Args", api.Type{Kind: api.TParam, Sym: 1, Args: []api.Type{param(2)}}, []int{1, 2}, []api.Type{intT, longT}, intT, api.OK},
		{"a free bound", inside(param(1)), []int{1}, []api.Type{bound(3, 2)},
			lambda(1, match(2, bound(3, 3), bound(3, 4), bound(3, 4))), api.OK},
		{"bounds that are not free", inside(param(1)), []int{1}, []api.Type{lambda(1, fun(bound(0, 0), bound(1, 1)))},
			lambda(1, match(2, lambda(1, fun(bound(0, 0), bound(1, 2))), lambda(1, fun(bound(0, 0), bound(1, 3))), lambda(1, fun(bound(0, 0), bound(1, 3))))), api.OK},
		{"bounds of the type", lambda(1, fun(bound(0, 0), bound(0, 1), param(1))), []int{1}, []api.Type{intT}, lambda(1, fun(bound(0, 0), bound(0, 1), intT)), api.OK},
		{"too few args", param(1), []int{1}, nil, api.Type{}, api.ErrArity},
		{"too many args", param(1), nil, []api.Type{intT}, api.Type{}, api.ErrArity},
		{"a parameter twice", intT, []int{1, 2, 1}, []api.Type{intT, intT, intT}, api.Type{}, api.ErrTwice},
		{"an arity ahead of a parameter twice", intT, []int{1, 1}, []api.Type{intT}, api.Type{}, api.ErrArity},
		{"a type with too many nodes", wide(2001), []int{1}, nil, api.Type{}, api.ErrLimit},
		{"a type too deep", arrays(64, intT), []int{1}, nil, api.Type{}, api.ErrDepth},
		{"both", arrays(64, wide(2000)), nil, nil, api.Type{}, api.ErrLimit},
		{"the type ahead of an argument", arrays(64, intT), []int{1}, []api.Type{wide(2001)}, api.Type{}, api.ErrDepth},
		{"an argument that is too large", intT, []int{1, 1}, []api.Type{intT, wide(2001)}, api.Type{}, api.ErrLimit},
		{"the arguments in order", intT, []int{1}, []api.Type{arrays(64, intT), wide(2001)}, api.Type{}, api.ErrDepth},
		{"a result with 2000 nodes", fun(param(1), param(1), intT), []int{1}, []api.Type{wide(999)}, fun(wide(999), wide(999), intT), api.OK},
		{"a result with 2001 nodes", fun(param(1), param(1), intT, intT), []int{1}, []api.Type{wide(999)}, api.Type{}, api.ErrLimit},
		{"a result with 4 million nodes", wideOf(2000, param(1)), []int{1}, []api.Type{wide(2000)}, api.Type{}, api.ErrLimit},
		{"a result with 64 levels", arrays(31, param(1)), []int{1}, []api.Type{arrays(32, intT)}, arrays(63, intT), api.OK},
		{"a result with 65 levels", arrays(32, param(1)), []int{1}, []api.Type{arrays(32, intT)}, api.Type{}, api.ErrDepth},
		{"a result that is beyond both", or(param(1), arrays(40, param(1))), []int{1}, []api.Type{arrays(40, wide(1500))}, api.Type{}, api.ErrLimit},
		{"a raw lambda", lambda(1, param(1), param(1)), []int{1}, []api.Type{bound(0, 0)}, lambda(1, bound(0, 1), bound(0, 0)), api.OK},
	} {
		got, code := Subst(c.t, c.params, c.args)
		wantCode(t, "Subst: "+c.what, code, c.wantErr)
		wantType(t, "Subst: "+c.what, got, c.want)
	}
}

// P7.2: Open.
func TestOpen(t *testing.T) {
	for _, c := range []struct {
		what    string
		t       api.Type
		args    []api.Type
		want    api.Type
		wantErr api.Errno
	}{
		{"a variable", lambda(1, bound(0, 0)), []api.Type{intT}, intT, api.OK},
		{"two variables", lambda(2, fun(bound(1, 0), bound(0, 0), bound(1, 0))), []api.Type{intT, longT}, fun(longT, intT, longT), api.OK},
		{"a variable that is not used", lambda(1, array(intT)), []api.Type{bound(0, 0)}, array(intT), api.OK},
		{"a binder further out", lambda(1, fun(bound(0, 0), bound(0, 1), bound(3, 7))), []api.Type{intT}, fun(intT, bound(0, 0), bound(3, 6)), api.OK},
		{"a lambda in it", lambda(1, lambda(1, fun(bound(0, 0), bound(0, 1), bound(0, 2)))), []api.Type{intT}, lambda(1, fun(bound(0, 0), intT, bound(0, 1))), api.OK},
		{"a match in it", lambda(1, match(1, bound(0, 0), bound(0, 0), bound(0, 1), bound(0, 1), bound(0, 2))), []api.Type{intT},
			match(1, intT, bound(0, 0), intT, intT, bound(0, 1)), api.OK},
		{"a free bound in an argument", lambda(1, fun(bound(0, 0), lambda(1, fun(bound(0, 1), bound(0, 2))))), []api.Type{bound(5, 1)},
			fun(bound(5, 1), lambda(1, fun(bound(5, 2), bound(0, 1)))), api.OK},
		{"a lambda as an argument", lambda(1, apply(bound(0, 0), intT)), []api.Type{lambda(1, fun(bound(0, 0), bound(0, 1)))},
			apply(lambda(1, fun(bound(0, 0), bound(0, 1))), intT), api.OK},
		{"12 variables", lambda(12, bound(11, 0)), append(times(11, intT), longT), longT, api.OK},
		{"a raw lambda without variables", lambda(0, fun(bound(0, 0), bound(0, 1))), nil, fun(bound(0, 0), bound(0, 0)), api.OK},
		{"a variable that the lambda does not have", lambda(1, fun(bound(1, 0), bound(-1, 0))), []api.Type{intT}, fun(bound(1, 0), bound(-1, 0)), api.OK},
		{"no lambda", intT, nil, api.Type{}, api.ErrKind},
		{"a match", match(1, intT, intT, intT), []api.Type{intT}, api.Type{}, api.ErrKind},
		{"a lambda without a body", lambda(0), nil, api.Type{}, api.ErrKind},
		{"a lambda with two bodies", lambda(1, intT, intT), []api.Type{intT}, api.Type{}, api.ErrKind},
		{"a kind ahead of an arity", array(intT), []api.Type{intT}, api.Type{}, api.ErrKind},
		{"too few arguments", lambda(2, intT), []api.Type{intT}, api.Type{}, api.ErrArity},
		{"too many arguments", lambda(1, intT), []api.Type{intT, intT}, api.Type{}, api.ErrArity},
		{"no arguments", lambda(1, intT), nil, api.Type{}, api.ErrArity},
		{"too many nodes", wide(2001), nil, api.Type{}, api.ErrLimit},
		{"a type too deep", arrays(64, intT), nil, api.Type{}, api.ErrDepth},
		{"an argument that is too large", intT, []api.Type{wide(2001)}, api.Type{}, api.ErrLimit},
		{"an argument too deep", lambda(1, intT), []api.Type{arrays(64, intT)}, api.Type{}, api.ErrDepth},
		{"a result with 2000 nodes", lambda(1, fun(bound(0, 0), bound(0, 0), intT)), []api.Type{wide(999)}, fun(wide(999), wide(999), intT), api.OK},
		{"a result with 2001 nodes", lambda(1, fun(bound(0, 0), bound(0, 0), intT, intT)), []api.Type{wide(999)}, api.Type{}, api.ErrLimit},
		{"a result with 64 levels", lambda(1, arrays(31, bound(0, 0))), []api.Type{arrays(32, intT)}, arrays(63, intT), api.OK},
		{"a result with 65 levels", lambda(1, arrays(32, bound(0, 0))), []api.Type{arrays(32, intT)}, api.Type{}, api.ErrDepth},
		{"a lambda of 64 levels", lambda(1, arrays(62, bound(0, 0))), []api.Type{intT}, arrays(62, intT), api.OK},
	} {
		got, code := Open(c.t, c.args)
		wantCode(t, "Open: "+c.what, code, c.wantErr)
		wantType(t, "Open: "+c.what, got, c.want)
	}
}

// P7.2: OpenCase.
func TestOpenCase(t *testing.T) {
	three := match(2, bound(0, 0), bound(0, 0), bound(1, 0), bound(1, 0), bound(0, 0), bound(0, 1), lambda(1, fun(bound(0, 0), bound(1, 1), bound(0, 2))))
	two := []api.Type{intT, longT}
	for _, c := range []struct {
		what          string
		t             api.Type
		k             int
		args          []api.Type
		pattern, body api.Type
		wantErr       api.Errno
	}{
		{"the first case", three, 0, two, intT, longT, api.OK},
		{"the second case", three, 1, two, longT, intT, api.OK},
		{"the last case", three, 2, two, bound(0, 0), lambda(1, fun(bound(0, 0), longT, bound(0, 1))), api.OK},
		{"behind the last case", three, 3, two, api.Type{}, api.Type{}, api.ErrRange},
		{"a case below 0", three, -1, two, api.Type{}, api.Type{}, api.ErrRange},
		{"a great number", three, 1 << 62, two, api.Type{}, api.Type{}, api.ErrRange},
		{"a case without variables", match(0, intT, bound(0, 1), bound(2, 3)), 0, nil, bound(0, 0), bound(2, 2), api.OK},
		{"free bounds", match(1, intT, bound(0, 0), lambda(1, bound(0, 1))), 0, []api.Type{bound(3, 4)}, bound(3, 4), lambda(1, bound(3, 5)), api.OK},
		{"no match", lambda(1, intT), 0, []api.Type{intT}, api.Type{}, api.Type{}, api.ErrKind},
		{"a kind ahead of a range", intT, -1, nil, api.Type{}, api.Type{}, api.ErrKind},
		{"a range ahead of an arity", three, 3, nil, api.Type{}, api.Type{}, api.ErrRange},
		{"too few arguments", three, 0, times(1, intT), api.Type{}, api.Type{}, api.ErrArity},
		{"too many arguments", three, 0, times(3, intT), api.Type{}, api.Type{}, api.ErrArity},
		{"a match without Args", match(0), 0, nil, api.Type{}, api.Type{}, api.ErrRange},
		{"a match without cases", match(0, intT), 0, nil, api.Type{}, api.Type{}, api.ErrRange},
		{"half a case", match(0, intT, intT), 0, nil, api.Type{}, api.Type{}, api.ErrRange},
		{"a case in front of half a case", match(0, intT, longT, anyT, intT), 0, nil, longT, anyT, api.OK},
		{"too many nodes", wide(2001), 0, nil, api.Type{}, api.Type{}, api.ErrLimit},
		{"a type too deep", arrays(64, intT), 0, nil, api.Type{}, api.Type{}, api.ErrDepth},
		{"an argument that is too large", intT, 0, []api.Type{wide(2001)}, api.Type{}, api.Type{}, api.ErrLimit},
		{"a pattern with 2000 nodes", match(1, intT, fun(bound(0, 0), intT), intT), 0, []api.Type{wide(1998)}, fun(wide(1998), intT), intT, api.OK},
		{"a pattern with 2001 nodes", match(1, intT, fun(bound(0, 0), intT), intT), 0, []api.Type{wide(1999)}, api.Type{}, api.Type{}, api.ErrLimit},
		{"a body with 2001 nodes", match(1, intT, intT, fun(bound(0, 0), intT)), 0, []api.Type{wide(1999)}, api.Type{}, api.Type{}, api.ErrLimit},
		{"a pattern and a body with 2000 nodes in all", match(1, intT, bound(0, 0), bound(0, 0)), 0, []api.Type{wide(1999)}, wide(1999), wide(1999), api.OK},
		{"a pattern too deep", match(1, intT, arrays(30, bound(0, 0)), intT), 0, []api.Type{arrays(34, intT)}, api.Type{}, api.Type{}, api.ErrDepth},
		{"a body too deep", match(1, intT, intT, arrays(30, bound(0, 0))), 0, []api.Type{arrays(34, intT)}, api.Type{}, api.Type{}, api.ErrDepth},
		{"a body of 64 levels", match(1, intT, intT, arrays(30, bound(0, 0))), 0, []api.Type{arrays(33, intT)}, intT, arrays(63, intT), api.OK},
		{"the pattern ahead of the body", match(1, intT, arrays(40, bound(0, 0)), fun(bound(0, 0), bound(0, 0))), 0, []api.Type{arrays(40, wide(1500))}, api.Type{}, api.Type{}, api.ErrDepth},
	} {
		pattern, body, code := OpenCase(c.t, c.k, c.args)
		wantCode(t, "OpenCase: "+c.what, code, c.wantErr)
		wantType(t, "the pattern of OpenCase: "+c.what, pattern, c.pattern)
		wantType(t, "the body of OpenCase: "+c.what, body, c.body)
	}
}

// names gives each variable of each binder a name of its own, so that nothing
// has to be shifted: a TBound becomes a TRefine of its name, whatever stands
// around it.
type names struct{ made int }

// bare returns a type with names; around are the names of the binders around
// it, from the inside on.
func (n *names) bare(t api.Type, around []string) api.Type {
	if t.Kind == api.TBound {
		return refined(around[t.Sym] + "." + strconv.Itoa(t.Num))
	}
	var args []api.Type
	for i, x := range t.Args {
		inner := around
		if t.Kind == api.TLambda || t.Kind == api.TMatch && i > 0 {
			n.made++
			inner = append([]string{"b" + strconv.Itoa(n.made)}, around...)
			x = array(refined(inner[0], n.bare(x, inner)))
		} else {
			x = n.bare(x, inner)
		}
		args = append(args, x)
	}
	t.Args = args
	return t
}

// back is the reverse of bare.
func back(t api.Type, around []string) api.Type {
	if t.Kind == api.TRefine && len(t.Args) == 0 {
		for sym, name := range around {
			for num := range 13 {
				if t.Name == name+"."+strconv.Itoa(num) {
					return bound(num, sym)
				}
			}
		}
	}
	var args []api.Type
	for i, x := range t.Args {
		if t.Kind == api.TLambda || t.Kind == api.TMatch && i > 0 {
			binder := x.Args[0]
			args = append(args, back(binder.Args[0], append([]string{binder.Name}, around...)))
		} else {
			args = append(args, back(x, around))
		}
	}
	t.Args = args
	return t
}

// replaced replaces what stands in a map by its show.
func replaced(t api.Type, by map[string]api.Type) api.Type {
	if with, ok := by[show(t)]; ok {
		return with
	}
	var args []api.Type
	for _, x := range t.Args {
		args = append(args, replaced(x, by))
	}
	t.Args = args
	return t
}

// P7.2: random substitutions and openings under random binders are those of
// types whose variables have names.
func TestSubstRandom(t *testing.T) {
	d := dice(11)
	outer := []string{"o0", "o1", "o2"}
	for range 5000 {
		m := maker{dice: &d, env: sample(), binders: []int{1, 2, 3}}
		x, args := m.proper(1+d.roll(5)), m.some(2, 1+d.roll(3))
		var n names
		params := []int{d.roll(3), 3 + d.roll(4)}
		by := map[string]api.Type{}
		for i, p := range params {
			by[show(param(p))] = n.bare(args[i], outer)
		}
		want := back(replaced(n.bare(x, outer), by), outer)
		if got, code := Subst(x, params, args); code != api.OK || !same(got, want) {
			t.Fatalf("Subst(%s, %v, %s, %s) = %s, %v, want %s", show(x), params, show(args[0]), show(args[1]), show(got), code, show(want))
		}
		num := 1 + d.roll(2)
		body, scrutinee := m.inside(num, 1+d.roll(4)), m.proper(2)
		by = map[string]api.Type{}
		for i := range num {
			by[show(refined("in."+strconv.Itoa(i)))] = n.bare(args[i], outer)
		}
		want = back(replaced(n.bare(body, append([]string{"in"}, outer...)), by), outer)
		if got, code := Open(lambda(num, body), args[:num]); code != api.OK || !same(got, want) {
			t.Fatalf("Open of %s with %s = %s, %v, want %s", show(body), show(args[0]), show(got), code, show(want))
		}
		other := m.inside(num, 2)
		pattern, second, code := OpenCase(match(num, scrutinee, other, other, body, other), 1, args[:num])
		if first, _ := Open(lambda(num, other), args[:num]); code != api.OK || !same(pattern, want) || !same(second, first) {
			t.Fatalf("OpenCase of %s with %s = %s and %s, %v, want %s and %s", show(body), show(args[0]), show(pattern), show(second), code, show(want), show(first))
		}
	}
}

// P7.5: Subst with the parameters themselves changes nothing, and opening a
// TLambda whose variables are not used is its body.
func TestSubstIdentity(t *testing.T) {
	d := dice(12)
	for range 3000 {
		m := maker{dice: &d, env: sample(), binders: []int{2, 1}}
		x := m.proper(1 + d.roll(5))
		got, code := Subst(x, []int{0, 1, 2, 3, 4, 5, 6}, []api.Type{param(0), param(1), param(2), param(3), param(4), param(5), param(6)})
		if code != api.OK || !same(got, x) {
			t.Fatalf("Subst of %s by its parameters = %s, %v", show(x), show(got), code)
		}
		// A binder that is put around a type shifts what is free in it.
		under, _ := Subst(lambda(1, param(99)), []int{99}, []api.Type{x})
		if got, code := Open(under, []api.Type{anyT}); code != api.OK || !same(got, x) {
			t.Fatalf("Open of %s = %s, %v, want %s", show(under), show(got), code, show(x))
		}
	}
}
