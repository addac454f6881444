package types

import (
	"testing"

	"newel/api"
)

// normalCase is a type with its normal form.
type normalCase struct {
	what    string
	t, want api.Type
}

func wantNormals(t *testing.T, cases []normalCase) {
	t.Helper()
	for _, c := range cases {
		got, code := Normal(c.t)
		wantCode(t, "Normal of "+c.what, code, api.OK)
		wantType(t, "Normal of "+c.what, got, c.want)
	}
}

// errorCase is a type whose normal form has an error.
type errorCase struct {
	what string
	t    api.Type
	want api.Errno
}

func wantErrors(t *testing.T, cases []errorCase) {
	t.Helper()
	for _, c := range cases {
		got, code := Normal(c.t)
		wantCode(t, "Normal of "+c.what, code, c.want)
		if code != api.OK {
			wantZero(t, "Normal of "+c.what, got)
		}
	}
}

var identity = lambda(1, bound(0, 0))

// P7.3: rule 1.
func TestNormalApplied(t *testing.T) {
	wantNormals(t, []normalCase{
		{"a basic type", intT, intT},
		{"an applied lambda", apply(lambda(1, array(bound(0, 0))), intT), array(intT)},
		{"two variables", apply(lambda(2, fun(bound(1, 0), bound(0, 0))), intT, longT), fun(longT, intT)},
		{"a part", class(box, apply(identity, intT)), class(box, intT)},
		{"a part of a lambda", lambda(1, apply(identity, bound(0, 0))), lambda(1, bound(0, 0))},
		{"a function that is normalized first", apply(lambda(1, apply(identity, bound(0, 0))), intT), intT},
		{"an argument that is normalized first", apply(identity, apply(identity, intT)), intT},
		{"what comes of it", apply(lambda(1, apply(bound(0, 0), intT)), lambda(1, array(bound(0, 0)))), array(intT)},
		{"a union that comes of it", apply(lambda(1, or(bound(0, 0), intT)), intT), intT},
		{"a binder further out", lambda(1, apply(lambda(1, fun(bound(0, 0), bound(0, 1))), bound(0, 0))), lambda(1, fun(bound(0, 0), bound(0, 0)))},
		{"a free bound", apply(lambda(1, fun(bound(0, 0), bound(0, 5))), bound(1, 2)), fun(bound(1, 2), bound(0, 4))},
		{"another number of arguments", apply(identity, intT, longT), apply(identity, intT, longT)},
		{"an applied parameter", apply(param(1), apply(identity, intT)), apply(param(1), intT)},
		{"an applied member", apply(member(objU, this(obj)), intT), apply(member(objU, this(obj)), intT)},
		{"12 variables", apply(append([]api.Type{lambda(12, bound(11, 0))}, append(times(11, intT), longT)...)...), longT},
		{"a lambda that is not applied", lambda(1, bound(0, 0)), lambda(1, bound(0, 0))},
		{"a match type", match(1, apply(identity, intT), apply(identity, bound(0, 0)), or(bound(0, 0), bound(0, 0))), match(1, intT, bound(0, 0), bound(0, 0))},
		{"a refinement", refined("T", and(anyT, intT), or(intT, nothingT), apply(identity, intT)), refined("T", intT, intT, intT)},
	})
}

// P7.3: rule 2 without unions.
func TestNormalAnd(t *testing.T) {
	c, d, p := class(box, intT), class(obj), param(1)
	wantNormals(t, []normalCase{
		{"parts in another order", and(d, p, c), and(c, d, p)},
		{"parts that stand twice", and(d, c, d, c), and(c, d)},
		{"one part", and(p, p), p},
		{"Any beside others", and(anyT, d, p), and(d, p)},
		{"Any alone", and(anyT, anyT), anyT},
		{"Any and one part", and(p, anyT), p},
		{"Any and Null", and(anyT, nullT), nullT},
		{"nested", and(and(d, p), and(c, and(p, anyT))), and(c, d, p)},
		{"Nothing", and(p, nothingT), nothingT},
		{"Nothing in a nested one", and(p, and(d, nothingT)), nothingT},
		{"Int twice", and(intT, intT), intT},
		{"Int and Any", and(intT, anyT), intT},
		{"Int and a parameter", and(p, intT), and(intT, p)},
		{"Int and Long", and(intT, longT), nothingT},
		{"Int and Null", and(nullT, intT), nothingT},
		{"Int and String", and(stringT, intT), nothingT},
		{"Int and a class", and(intT, c), nothingT},
		{"Unit and an array", and(unitT, array(intT)), nothingT},
		{"Boolean and a function", and(fun(intT), booleanT), nothingT},
		{"Char and Unit", and(charT, unitT), nothingT},
		{"Long and Char and a parameter", and(p, longT, charT), nothingT},
		{"two classes", and(d, c), and(c, d)},
		{"two arrays", and(array(longT), array(intT)), and(array(intT), array(longT))},
		{"two functions", and(fun(longT), fun(intT)), and(fun(intT), fun(longT))},
		{"a class and String", and(c, stringT), nullT},
		{"a class and an array", and(array(intT), c), nullT},
		{"a class, an array and a function", and(fun(intT), array(intT), c, c), nullT},
		{"a function and String", and(fun(intT), stringT), nullT},
		{"Null and a class", and(c, nullT), nullT},
		{"Null and String", and(stringT, nullT), nullT},
		{"Null and two classes and a parameter", and(c, p, nullT, d), and(nullT, p)},
		{"Null and a parameter", and(p, nullT), and(nullT, p)},
		{"Null and this", and(this(box), nullT), and(nullT, this(box))},
		{"a class, an array and a parameter", and(array(intT), p, c), and(nullT, p)},
		{"a class and parameters", and(variable(1), p, c), and(c, p, variable(1))},
		{"other kinds have no group", and(variable(1), this(box), local(1), match(0, intT, intT, intT), refined("T", c, intT, intT), intT),
			and(intT, this(box), local(1), match(0, intT, intT, intT), refined("T", c, intT, intT), variable(1))},
		{"type functions are taken as they are", and(identity, nullT, c, identity), and(nullT, identity)},
		{"parts that are normalized first", and(array(and(intT, anyT)), array(or(intT, nothingT))), array(intT)},
		{"Nothing of parts", and(p, and(intT, longT)), nothingT},
	})
}

// P7.3: rule 2 with unions.
func TestNormalAndOr(t *testing.T) {
	a, b, c, d := param(1), param(2), param(3), param(4)
	wantNormals(t, []normalCase{
		{"the example", and(intT, or(intT, stringT)), intT},
		{"a union in front", and(or(a, b), c), or(and(a, c), and(b, c))},
		{"a union behind", and(c, or(a, b)), or(and(a, c), and(b, c))},
		{"two unions", and(or(a, b), or(c, d)), or(and(a, c), and(a, d), and(b, c), and(b, d))},
		{"a union with a part of it", and(or(a, b), a), a},
		{"a union with itself", and(or(a, b), or(b, a)), or(a, b)},
		{"unions with a common part", and(or(a, b), or(a, c)), or(a, and(b, c))},
		{"a union with Nothing", and(or(a, b), nothingT), nothingT},
		{"a union with Any", and(or(a, b), anyT), or(a, b)},
		{"a union of Any", and(or(a, anyT), b), b},
		{"a union of groups", and(or(intT, longT), or(longT, charT)), longT},
		{"a union with Null", and(or(stringT, intT), nullT), nullT},
		{"a union in a nested intersection", and(a, and(b, or(c, d))), or(and(a, b, c), and(a, b, d))},
		{"a union of intersections", and(or(and(a, b), c), d), or(and(c, d), and(a, b, d))},
		{"a union below another node", and(array(or(a, b)), c), and(c, array(or(a, b)))},
		{"an argument that is a union", apply(lambda(1, and(bound(0, 0), a)), or(b, c)), or(and(a, b), and(a, c))},
	})
}

// P7.3: rule 3.
func TestNormalOr(t *testing.T) {
	c, d, p, q := class(box, intT), class(obj), param(1), param(2)
	wantNormals(t, []normalCase{
		{"the example", or(nullT, stringT), stringT},
		{"parts in another order", or(p, d, c, intT), or(intT, c, d, p)},
		{"parts that stand twice", or(p, d, p), or(d, p)},
		{"one part", or(p, p), p},
		{"Nothing beside others", or(nothingT, d, p), or(d, p)},
		{"Nothing alone", or(nothingT, nothingT), nothingT},
		{"Nothing and one part", or(p, nothingT), p},
		{"Any", or(p, anyT), anyT},
		{"Any in a nested one", or(p, or(anyT, d)), anyT},
		{"Any and Nothing", or(nothingT, anyT), anyT},
		{"nested", or(or(d, p), or(c, or(p, intT))), or(intT, c, d, p)},
		{"a part absorbs an intersection with it", or(and(p, q), p), p},
		{"of two parts the one absorbs", or(and(p, q), q), q},
		{"an intersection absorbs one with more parts", or(and(p, q), and(p, q, c)), and(p, q)},
		{"intersections that have a part in common", or(and(p, q), and(p, c)), or(and(c, p), and(p, q))},
		{"nothing absorbs what is less", or(and(p, q), variable(1)), or(and(p, q), variable(1))},
		{"a class absorbs Null", or(nullT, c), c},
		{"an array absorbs Null", or(array(intT), nullT), array(intT)},
		{"a function absorbs Null", or(fun(intT), nullT), fun(intT)},
		{"Int does not absorb Null", or(nullT, intT), or(nullT, intT)},
		{"Unit does not absorb Null", or(nullT, unitT), or(nullT, unitT)},
		{"a parameter does not absorb Null", or(nullT, p), or(nullT, p)},
		{"Null does not absorb String", or(nullT, stringT, p), or(stringT, p)},
		{"an intersection of classes absorbs Null", or(nullT, and(c, d)), and(c, d)},
		{"an intersection with a parameter does not absorb Null", or(nullT, and(c, p)), or(nullT, and(c, p))},
		{"Null absorbs Null and more", or(nullT, and(nullT, p)), nullT},
		{"a class and a parameter absorb Null and the parameter", or(and(c, p), and(nullT, p)), and(c, p)},
		{"a class absorbs Null and a parameter", or(c, and(nullT, p)), c},
		{"a parameter absorbs Null and it", or(p, and(nullT, p)), p},
		{"a class and another parameter do not", or(and(c, p), and(nullT, q)), or(and(nullT, q), and(c, p))},
		{"two that are absorbed by one", or(and(p, q), p, and(p, c)), p},
		{"two groups absorb Null", or(nullT, c, stringT), or(stringT, c)},
		{"type functions are taken as they are", or(identity, nothingT, identity, intT), or(intT, identity)},
	})
}

// P7.3: rule 4.
func TestNormalWild(t *testing.T) {
	wantNormals(t, []normalCase{
		{"equal bounds", class(box, wild(intT, intT)), class(box, intT)},
		{"bounds that become equal", class(box, wild(and(intT, anyT), or(intT, nothingT))), class(box, intT)},
		{"other bounds", class(box, wild(nothingT, apply(identity, intT))), class(box, wild(nothingT, intT))},
		{"bounds that differ in the depth", class(box, wild(array(intT), array(longT))), class(box, wild(array(intT), array(longT)))},
		{"a wildcard alone", wild(intT, intT), intT},
		{"a wildcard in a wildcard", wild(class(box, wild(intT, intT)), class(box, intT)), class(box, intT)},
	})
}

// P7.3: what has another number of Args than Check permits is taken as it is.
func TestNormalRaw(t *testing.T) {
	x := apply(identity, intT)
	twenty1 := append(times(20, longT), intT)
	wantNormals(t, []normalCase{
		{"no type", api.Type{}, api.Type{}},
		{"an unknown kind", node(99, x), node(99, intT)},
		{"and of none", and(), and()},
		{"and of one", and(or(x, x)), and(intT)},
		{"and of 21", and(append(times(20, x), anyT)...), and(append(times(20, intT), anyT)...)},
		{"or of none", or(), or()},
		{"or of one", or(and(x, anyT)), or(intT)},
		{"or of 21", or(twenty1...), or(twenty1...)},
		{"20 parts", or(twenty1[1:]...), or(intT, longT)},
		{"an application without arguments", apply(lambda(0, x)), apply(lambda(0, intT))},
		{"no application", apply(), apply()},
		{"13 arguments", apply(append([]api.Type{lambda(13, x)}, times(13, intT)...)...), apply(append([]api.Type{lambda(13, intT)}, times(13, intT)...)...)},
		{"a lambda without a body", apply(lambda(1), intT), apply(lambda(1), intT)},
		{"a lambda with two bodies", apply(lambda(1, intT, intT), intT), apply(lambda(1, intT, intT), intT)},
		{"a wildcard with one bound", node(api.TWild, x), node(api.TWild, intT)},
		{"a wildcard with three bounds", node(api.TWild, x, x, x), node(api.TWild, intT, intT, intT)},
		{"fields that the kind does not use", array(api.Type{Kind: api.TInt, Sym: 3, Name: "x"}), array(api.Type{Kind: api.TInt, Sym: 3, Name: "x"})},
		{"an array with two elements", node(api.TArray, x, x), node(api.TArray, intT, intT)},
		{"a bound", bound(-1, -1), bound(-1, -1)},
		{"more than 20 parts of nested unions", or(or(params(0, 20)...), or(params(20, 30)...)), or(params(0, 30)...)},
		{"more than 20 parts of nested intersections", and(and(params(0, 20)...), and(params(20, 30)...)), and(params(0, 30)...)},
		{"a union of more than 20 parts in an intersection", and(intT, or(or(params(0, 20)...), or(params(20, 30)...))), or(pairs(intT, params(0, 30))...)},
		{"such unions in a union", or(or(or(params(0, 20)...), or(params(20, 30)...)), param(30)), or(params(0, 31)...)},
	})
}

// rawNull returns a TNull with fields that its kind does not use.
func rawNull(sym, num int, name string) api.Type {
	return api.Type{Kind: api.TNull, Sym: sym, Num: num, Name: name}
}

// P7.3: one TNull takes the place of each TNull of an intersection, whatever
// its fields are, and of the Args of reference groups.
func TestNormalRawNull(t *testing.T) {
	one, two, p := rawNull(1, 0, ""), rawNull(2, 0, ""), param(0)
	wantNormals(t, []normalCase{
		{"two with other symbols", and(one, two), nullT},
		{"one with a number", and(nullT, rawNull(0, 3, "")), nullT},
		{"one with a symbol, twice", and(one, one), nullT},
		{"symbols below 0", and(rawNull(-1, 0, ""), rawNull(0, -1, "")), nullT},
		{"one with a name, and Any", and(rawNull(0, 0, "a"), anyT), nullT},
		{"Any in front", and(anyT, rawNull(1, 2, "b")), nullT},
		{"a parameter", and(one, p), and(nullT, p)},
		{"a parameter in front", and(p, rawNull(0, 0, "a")), and(nullT, p)},
		{"two and a parameter", and(two, p, one), and(nullT, p)},
		{"this", and(this(box), one), and(nullT, this(box))},
		{"a type function", and(identity, one), and(nullT, identity)},
		{"a variable", and(variable(1), one), and(nullT, variable(1))},
		{"String and a parameter", and(stringT, one, p), and(nullT, p)},
		{"String", and(stringT, one), nullT},
		{"two groups", and(array(intT), stringT, one), nullT},
		{"Int", and(intT, one), nothingT},
		{"Nothing", and(one, nothingT), nothingT},
		{"a nested intersection", and(and(p, one), and(two, anyT)), and(nullT, p)},
		{"a part of another type", array(and(one, p)), array(and(nullT, p))},
		{"a union of two", and(or(one, two), p), and(nullT, p)},
		{"a union with Int", and(or(intT, one), p), or(and(nullT, p), and(intT, p))},
		{"what is applied", and(apply(identity, one), p), and(nullT, p)},
		{"what comes of an application", apply(lambda(1, and(bound(0, 0), p)), one), and(nullT, p)},
		{"Args that its kind does not have", and(node(api.TNull, intT), p), and(nullT, p)},
		{"one alone", one, one},
		{"one that is no part of an intersection", array(one), array(one)},
		{"a union", or(one, nullT, two), or(nullT, one, two)},
		{"a class in a union", or(class(obj), one), class(obj)},
		{"an intersection of one", and(one), and(one)},
		{"an intersection of 21", and(times(21, one)...), and(times(21, one)...)},
	})
}

// renulled gives each TNull that is a part of a type other fields.
func (d *dice) renulled(t api.Type) api.Type {
	switch t.Kind {
	case api.TNull:
		return rawNull(d.roll(3), d.roll(2), []string{"", "a"}[d.roll(2)])
	case api.TAnd, api.TOr:
		var args []api.Type
		for _, x := range t.Args {
			args = append(args, d.renulled(x))
		}
		t.Args = args
	}
	return t
}

// P7.3: the fields of a TNull change nothing in a random intersection.
func TestNormalRawNullRandom(t *testing.T) {
	d := dice(24)
	nulls := 0
	for range 6000 {
		x := and(d.mixed(1+d.roll(3)), or(d.mixed(1+d.roll(2)), nullT), d.mixed(1+d.roll(3)))
		y := d.renulled(x)
		want, code := Normal(x)
		if code != api.OK {
			continue
		}
		if got, code := Normal(y); code != api.OK || !same(got, want) {
			t.Fatalf("Normal(%s) = %s, %v, want %s", show(y), show(got), code, show(want))
		}
		if !same(want, nothingT) && !same(x, y) {
			nulls++
		}
	}
	if nulls < 1000 {
		t.Errorf("%d intersections with values: too few", nulls)
	}
}

// params returns type parameters in increasing order.
func params(from, to int) []api.Type {
	var l []api.Type
	for i := from; i < to; i++ {
		l = append(l, param(i))
	}
	return l
}

// pairs returns the intersections of a type and others.
func pairs(t api.Type, l []api.Type) []api.Type {
	var all []api.Type
	for _, x := range l {
		all = append(all, and(t, x))
	}
	return all
}

// P7.3: the limits: of the argument, and of the normal form of each part.
func TestNormalLimits(t *testing.T) {
	double := lambda(1, fun(bound(0, 0), bound(0, 0)))
	deep := lambda(1, arrays(40, bound(0, 0)))
	first := lambda(1, intT)
	wantErrors(t, []errorCase{
		{"2000 nodes", wide(2000), api.OK},
		{"2001 nodes", wide(2001), api.ErrLimit},
		{"64 levels", arrays(63, intT), api.OK},
		{"65 levels", arrays(64, intT), api.ErrDepth},
		{"both", arrays(64, wide(2000)), api.ErrLimit},
		{"2000 nodes that come of 1003", apply(lambda(1, fun(intT, bound(0, 0), bound(0, 0))), wide(999)), api.OK},
		{"2001 nodes that come of 1004", apply(double, wide(1000)), api.ErrLimit},
		{"2000 nodes below others", array(apply(lambda(1, fun(bound(0, 0), bound(0, 0))), wide(999))), api.OK},
		{"2001 nodes below others", array(array(apply(lambda(1, fun(bound(0, 0), bound(0, 0))), wide(999)))), api.ErrLimit},
		{"a part that is too large, of what is small", apply(first, apply(double, wide(1000))), api.ErrLimit},
		{"a part that is too deep, of what is small", apply(first, apply(deep, arrays(40, intT))), api.ErrDepth},
		{"what becomes smaller", apply(lambda(2, bound(0, 0)), wide(900), wide(900)), api.OK},
		{"64 levels that come of two parts", apply(deep, arrays(23, intT)), api.OK},
		{"65 levels that come of two parts", apply(deep, arrays(24, intT)), api.ErrDepth},
		{"64 levels below others", arrays(10, apply(deep, arrays(13, intT))), api.OK},
		{"65 levels below others", arrays(10, apply(deep, arrays(14, intT))), api.ErrDepth},
		{"both in one step", apply(lambda(1, fun(arrays(40, bound(0, 0)), bound(0, 0))), arrays(40, wide(1000))), api.ErrLimit},
		{"large parts of what has no value", and(apply(double, wide(999)), apply(lambda(1, array(fun(bound(0, 0), bound(0, 0), bound(0, 0)))), wide(600))), api.OK},
		{"the same parts, with values", or(apply(double, wide(900)), apply(lambda(1, array(fun(bound(0, 0), bound(0, 0)))), wide(900))), api.ErrLimit},
		{"the first of two errors", fun(apply(double, wide(1000)), apply(deep, arrays(40, intT))), api.ErrLimit},
		{"the other one first", fun(apply(deep, arrays(40, intT)), apply(double, wide(1000))), api.ErrDepth},
		{"the inner one of two errors", apply(double, fun(wide(700), wide(700), apply(deep, arrays(40, intT)))), api.ErrDepth},
	})
}

// spread puts types into TFuns, and these into others, as long as there are too
// many for one.
func spread(l []api.Type) api.Type {
	for len(l) > 13 {
		l = append(l[13:], fun(l[:13]...))
	}
	return fun(l...)
}

// P7.3: at most 1000 steps.
func TestNormalSteps(t *testing.T) {
	// An intersection of n unions of 2 takes 2 + 4 + .. + 2^n steps.
	power := func(n int) api.Type { return and(times(n, or(intT, longT))...) }
	unions := []api.Type{power(8), power(7), power(6), power(5), power(4), power(3)} // 996
	// A function that applies its argument n times takes n + 1 steps.
	calls := func(n int) api.Type { return lambda(1, spread(times(n, apply(bound(0, 0), intT)))) }
	six := lambda(1, fun(times(6, apply(bound(0, 0), identity))...))
	many := apply(six, calls(99)) // 601
	one := apply(identity, intT)
	omega := lambda(1, apply(bound(0, 0), bound(0, 0)))
	twenty := or(params(0, 20)...)
	deep := apply(lambda(1, arrays(40, bound(0, 0))), arrays(40, intT))
	wantErrors(t, []errorCase{
		{"996 steps of unions and 4 others", fun(append(unions, one, one, one, one)...), api.OK},
		{"996 steps of unions and 5 others", fun(append(unions, one, one, one, one, one)...), api.ErrFuel},
		{"996 steps of unions, 2 more and 2 others", fun(append(unions, one, one, and(intT, or(intT, longT)))...), api.OK},
		{"996 steps of unions, 2 more and 3 others", fun(append(unions, one, one, one, and(intT, or(intT, longT)))...), api.ErrFuel},
		{"1000 steps of applications", fun(many, apply(calls(199), identity), apply(calls(198), identity)), api.OK},
		{"1001 steps of applications", fun(many, apply(calls(199), identity), apply(calls(199), identity)), api.ErrFuel},
		{"420 steps", and(twenty, or(params(20, 40)...)), api.OK},
		{"8420 steps", and(twenty, or(params(20, 40)...), or(params(40, 60)...)), api.ErrFuel},
		{"what does not end", apply(omega, omega), api.ErrFuel},
		{"what does not end, behind an error", fun(deep, apply(omega, omega)), api.ErrDepth},
		{"what does not end, in front of an error", fun(apply(omega, omega), deep), api.ErrFuel},
	})
}

// combination are the parts of an intersection.
type combination []api.Type

// normalOf is the oracle: the union of all combinations of the atoms, without
// those that have no values or are absorbed, as it comes of the definition of
// sets. It knows no steps and limits.
func normalOf(t api.Type) api.Type {
	var kept []combination
	for _, c := range combinations(t) {
		c = reduced(c)
		if c == nil {
			continue
		}
		kept = append(kept, c)
	}
	var l []api.Type
	for i, c := range kept {
		drop := false
		for k, other := range kept {
			drop = drop || k != i && covers(other, c) && (k < i || !covers(c, other))
		}
		if drop {
			continue
		}
		switch {
		case len(c) == 0:
			return anyT
		case len(c) == 1:
			l = append(l, c[0])
		default:
			l = append(l, and(c...))
		}
	}
	sorted(l)
	switch len(l) {
	case 0:
		return nothingT
	case 1:
		return l[0]
	}
	return or(l...)
}

// sorted sorts a list by insertion.
func sorted(l []api.Type) {
	for i := range l {
		for k := i; k > 0 && Compare(l[k], l[k-1]) < 0; k-- {
			l[k], l[k-1] = l[k-1], l[k]
		}
	}
}

func combinations(t api.Type) []combination {
	switch t.Kind {
	case api.TOr:
		var all []combination
		for _, x := range t.Args {
			all = append(all, combinations(x)...)
		}
		return all
	case api.TAnd:
		all := []combination{{}}
		for _, x := range t.Args {
			var next []combination
			for _, c := range all {
				for _, more := range combinations(x) {
					next = append(next, append(append(combination{}, c...), more...))
				}
			}
			all = next
		}
		return all
	}
	var args []api.Type
	for _, x := range t.Args {
		args = append(args, normalOf(x))
	}
	t.Args = args
	return []combination{{t}}
}

// reduced returns the parts of an intersection, nil if it has no values.
func reduced(c combination) combination {
	values, references, null := map[int]bool{}, map[int]bool{}, false
	out := combination{}
	for _, x := range c {
		switch x.Kind {
		case api.TNothing:
			return nil
		case api.TNull:
			null = true
		case api.TUnit, api.TBoolean, api.TChar, api.TInt, api.TLong:
			values[x.Kind] = true
		case api.TString, api.TClass, api.TArray, api.TFun:
			references[x.Kind] = true
		}
	}
	if len(values) > 1 || len(values) == 1 && (null || len(references) > 0) {
		return nil
	}
	null = null || len(references) > 1
	if null {
		out = append(out, nullT)
	}
	for _, x := range c {
		if x.Kind == api.TAny || x.Kind == api.TNull || null && references[x.Kind] {
			continue
		}
		if !contains(out, x) {
			out = append(out, x)
		}
	}
	sorted(out)
	return out
}

func contains(l []api.Type, t api.Type) bool {
	for _, x := range l {
		if same(x, t) {
			return true
		}
	}
	return false
}

// covers reports whether the values of an intersection are among those of
// another one, as far as the parts tell.
func covers(c, less combination) bool {
	for _, x := range c {
		switch x.Kind {
		case api.TString, api.TClass, api.TArray, api.TFun:
			if contains(less, nullT) {
				continue
			}
		}
		if !contains(less, x) {
			return false
		}
	}
	return true
}

// mixed makes a type of basic types, classes, arrays, functions, intersections
// and unions, and some others.
func (d *dice) mixed(depth int) api.Type {
	if depth <= 1 || d.one(4) {
		if d.one(3) {
			return []api.Type{param(1), param(2), variable(1), this(box), class(obj)}[d.roll(5)]
		}
		return node(api.TAny + d.roll(9))
	}
	depth--
	var l []api.Type
	for range 2 + d.roll(2) {
		l = append(l, d.mixed(depth))
	}
	switch d.roll(8) {
	case 0:
		return array(d.mixed(depth))
	case 1:
		return class(box, d.mixed(depth))
	case 2:
		return fun(l...)
	case 3, 4:
		return or(l...)
	}
	return and(l...)
}

// turned puts the Args of intersections and unions into another order, and some
// of them twice.
func (d *dice) turned(t api.Type) api.Type {
	var args []api.Type
	for _, x := range t.Args {
		args = append(args, d.turned(x))
	}
	if t.Kind == api.TAnd || t.Kind == api.TOr {
		for i := range args {
			k := i + d.roll(len(args)-i)
			args[i], args[k] = args[k], args[i]
		}
		if d.one(3) {
			args = append(args, d.turned(args[d.roll(len(args))]))
		}
	}
	t.Args = args
	return t
}

// P7.3 and P7.5: the normal form of random types is that of the oracle; it is
// its own normal form, and that of a type whose Args have another order, or
// stand twice.
func TestNormalRandom(t *testing.T) {
	d := dice(21)
	unions := 0
	for range 6000 {
		x := d.mixed(1 + d.roll(4))
		got, code := Normal(x)
		if code != api.OK {
			continue
		}
		if want := normalOf(x); !same(got, want) {
			t.Fatalf("Normal(%s) = %s, want %s", show(x), show(got), show(want))
		}
		if again, code := Normal(got); code != api.OK || !same(again, got) {
			t.Fatalf("Normal(%s) = %s, %v", show(got), show(again), code)
		}
		y := d.turned(x)
		if other, code := Normal(y); code == api.OK && !same(other, got) {
			t.Fatalf("Normal(%s) = %s, but Normal(%s) = %s", show(x), show(got), show(y), show(other))
		}
		if got.Kind == api.TOr {
			unions++
		}
	}
	if unions < 500 {
		t.Errorf("%d unions: too few", unions)
	}
}

// everywhere reports whether a condition holds for all nodes.
func everywhere(t api.Type, ok func(x api.Type) bool) bool {
	for _, x := range t.Args {
		if !everywhere(x, ok) {
			return false
		}
	}
	return ok(t)
}

// P7.5: Normal of a type that Check accepts is accepted, and is its own normal
// form.
func TestNormalAccepted(t *testing.T) {
	d := dice(22)
	env := sample()
	changed := 0
	for range 6000 {
		m := maker{dice: &d, env: env}
		x := m.arity(d.roll(3), 1+d.roll(6))
		if Check(env, x) != api.OK || !everywhere(x, func(y api.Type) bool {
			return y.Kind != api.TClass || y.Sym != higher || y.Args[0].Kind != api.TWild
		}) {
			continue
		}
		got, code := Normal(x)
		if code != api.OK || !everywhere(got, func(y api.Type) bool { return len(y.Args) <= 20 }) {
			continue
		}
		if code := Check(env, got); code != api.OK || Arity(env, got) != Arity(env, x) {
			t.Fatalf("Normal(%s) = %s: Check %v", show(x), show(got), code)
		}
		if again, code := Normal(got); code != api.OK || !same(again, got) {
			t.Fatalf("Normal(%s) = %s, %v", show(got), show(again), code)
		}
		if !everywhere(got, func(y api.Type) bool {
			return y.Kind != api.TApply || y.Args[0].Kind != api.TLambda
		}) {
			t.Fatalf("Normal(%s) = %s has an application", show(x), show(got))
		}
		if !same(got, x) {
			changed++
		}
	}
	if changed < 1000 {
		t.Errorf("%d types that are not normal: too few", changed)
	}
}

// jumble makes a type of the kinds that Normal looks at, with any fields and
// numbers of Args.
func (d *dice) jumble(depth int) api.Type {
	kinds := []int{api.TAnd, api.TAnd, api.TOr, api.TOr, api.TApply, api.TLambda, api.TWild, api.TBound, api.TMatch,
		api.TInt, api.TString, api.TNull, api.TAny, api.TNothing, api.TParam, api.TClass}
	t := api.Type{Kind: kinds[d.roll(len(kinds))], Num: d.roll(3), Sym: d.roll(2)}
	if depth > 1 {
		n := d.roll(4)
		if d.one(30) {
			n = 21
		}
		for range n {
			t.Args = append(t.Args, d.jumble(depth-1))
		}
	}
	return t
}

// P7.5: Normal of Normal is the same, of any type.
func TestNormalTwice(t *testing.T) {
	d := dice(23)
	for range 30000 {
		x := d.jumble(1 + d.roll(5))
		got, code := Normal(x)
		if code != api.OK {
			continue
		}
		if again, code := Normal(got); code != api.OK || !same(again, got) {
			t.Fatalf("Normal(%s) = %s, but Normal of that is %s, %v", show(x), show(got), show(again), code)
		}
	}
}
