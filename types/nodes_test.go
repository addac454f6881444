package types

import (
	"slices"
	"testing"

	"newel/api"
)

// cyclic returns a type that is its own part.
func cyclic(kind int) api.Type {
	l := make([]api.Type, 2)
	t := api.Type{Kind: kind, Args: l}
	l[0], l[1] = t, t
	return t
}

// shared returns a type of so many levels, in which both Args of each node are
// in one list: it has more nodes than anyone can visit.
func shared(levels int, last api.Type) api.Type {
	t := last
	for range levels - 1 {
		t = or(t, t)
	}
	return t
}

// P7.1: Size and Depth, with their limits.
func TestSizeDepth(t *testing.T) {
	for _, c := range []struct {
		what        string
		t           api.Type
		size, depth int
	}{
		{"no type", api.Type{}, 1, 1},
		{"Int", intT, 1, 1},
		{"an array", array(intT), 2, 2},
		{"a function", fun(intT, array(anyT), intT), 5, 3},
		{"empty Args", api.Type{Kind: api.TAnd, Args: []api.Type{}}, 1, 1},
		{"the deepest part in the middle", and(intT, array(array(intT)), array(intT)), 7, 4},
		{"63 levels", arrays(62, intT), 63, 63},
		{"64 levels", arrays(63, intT), 64, 64},
		{"65 levels", arrays(64, intT), 65, 65},
		{"66 levels", arrays(65, intT), 66, 65},
		{"1000 levels", arrays(999, intT), 1000, 65},
		{"5000 levels", arrays(4999, intT), 2001, 65},
		{"1999 nodes", or(times(1998, intT)...), 1999, 2},
		{"2000 nodes", or(times(1999, intT)...), 2000, 2},
		{"2001 nodes", or(times(2000, intT)...), 2001, 2},
		{"2002 nodes", or(times(2001, intT)...), 2001, 2},
		{"many nodes, not deep", or(times(300, or(times(300, array(intT))...))...), 2001, 4},
		{"many nodes, the first one deeper", or(append([]api.Type{arrays(20, intT)}, times(3000, intT)...)...), 2001, 22},
		{"many nodes, the last one deeper", or(append(times(3000, intT), arrays(20, intT))...), 2001, 22},
		{"many nodes, 64 levels", or(append(times(3000, intT), arrays(62, intT))...), 2001, 64},
		{"many nodes, 65 levels", or(append(times(3000, intT), arrays(63, intT))...), 2001, 65},
		{"many nodes, 66 levels", or(append(times(3000, intT), arrays(64, intT))...), 2001, 65},
		{"shared nodes", shared(40, intT), 2001, 40},
		{"64 levels of shared nodes", shared(64, intT), 2001, 64},
		{"65 levels of shared nodes", shared(65, intT), 2001, 65},
		{"a cycle", cyclic(api.TOr), 2001, 65},
	} {
		if got := Size(c.t); got != c.size {
			t.Errorf("Size of %s = %d, want %d", c.what, got, c.size)
		}
		if got := Depth(c.t); got != c.depth {
			t.Errorf("Depth of %s = %d, want %d", c.what, got, c.depth)
		}
	}
}

// P7.1: Free.
func TestFree(t *testing.T) {
	for _, c := range []struct {
		what string
		t    api.Type
		want bool
	}{
		{"Int", intT, false},
		{"a bound", bound(0, 0), true},
		{"a bound in a lambda", lambda(1, bound(0, 0)), false},
		{"a bound whose number the lambda does not have", lambda(1, bound(5, 0)), false},
		{"a bound further out", lambda(1, bound(0, 1)), true},
		{"a bound further out, of another lambda", lambda(1, lambda(1, bound(0, 1))), false},
		{"a bound outside of both", lambda(1, lambda(1, bound(0, 2))), true},
		{"a bound below 0", lambda(1, bound(0, -1)), true},
		{"a scrutinee", match(1, bound(0, 0), intT, intT), true},
		{"a pattern", match(1, intT, bound(0, 0), intT), false},
		{"a body", match(1, intT, intT, bound(0, 0)), false},
		{"the last body", match(1, intT, intT, intT, intT, bound(0, 0)), false},
		{"outside of a case", match(1, intT, intT, intT, intT, bound(0, 1)), true},
		{"a case without variables", match(0, intT, intT, bound(0, 0)), false},
		{"a second part of a lambda", lambda(1, intT, bound(0, 0)), true},
		{"an argument of a lambda", apply(lambda(1, bound(0, 0)), bound(0, 0)), true},
		{"the last of many", fun(append(times(1000, intT), bound(0, 0))...), true},
		{"2000 nodes", wide(2000), false},
		{"2001 nodes", wide(2001), true},
		{"64 levels", arrays(63, intT), false},
		{"65 levels", arrays(64, intT), true},
		{"a cycle", cyclic(api.TOr), true},
	} {
		if got := Free(c.t); got != c.want {
			t.Errorf("Free of %s = %v, want %v", c.what, got, c.want)
		}
	}
}

// P7.1: Vars.
func TestVars(t *testing.T) {
	for _, c := range []struct {
		what string
		t    api.Type
		want []int
	}{
		{"Int", api.Type{Kind: api.TInt, Num: 3}, nil},
		{"a variable", variable(7), []int{7}},
		{"some", fun(variable(9), array(variable(2)), variable(9), variable(0)), []int{0, 2, 9}},
		{"numbers that no variable may have", or(variable(1000), variable(-1)), []int{-1, 1000}},
		{"in a variable", api.Type{Kind: api.TVar, Num: 3, Args: []api.Type{variable(1)}}, []int{1, 3}},
		{"in a binder", lambda(1, match(1, variable(3), variable(2), variable(1))), []int{1, 2, 3}},
		{"2000 nodes", or(append(times(1998, intT), variable(1))...), []int{1}},
		{"2001 nodes", or(append(times(1999, intT), variable(1))...), nil},
		{"64 levels", arrays(63, variable(1)), []int{1}},
		{"65 levels", arrays(64, variable(1)), nil},
		{"a cycle", cyclic(api.TVar), nil},
	} {
		if got := Vars(c.t); !slices.Equal(got, c.want) {
			t.Errorf("Vars of %s = %v, want %v", c.what, got, c.want)
		}
	}
}

// wantOrder wants that the first type is less than, equal to, or greater than
// the second one.
func wantOrder(t *testing.T, what string, a, b api.Type, want int) {
	t.Helper()
	if got := Compare(a, b); got != want {
		t.Errorf("%s: Compare = %d, want %d", what, got, want)
	}
	if got := Compare(b, a); got != -want {
		t.Errorf("%s, the other way round: Compare = %d, want %d", what, got, -want)
	}
	if got := Equal(a, b); got != (want == 0) {
		t.Errorf("%s: Equal = %v", what, got)
	}
}

// P7.1: Compare and Equal: the fields in their order, then the Args.
func TestCompare(t *testing.T) {
	x := api.Type{Kind: 5, Sym: 5, Name: "m", Num: 5, Args: []api.Type{intT, anyT}}
	change := func(f func(t *api.Type)) api.Type {
		y := deepCopy(x)
		f(&y)
		return y
	}
	wantOrder(t, "the same", x, deepCopy(x), 0)
	greater := []func(y *api.Type){
		func(y *api.Type) { y.Kind++ },
		func(y *api.Type) { y.Sym++ },
		func(y *api.Type) { y.Name = "ma" },
		func(y *api.Type) { y.Num++ },
		func(y *api.Type) { y.Args = append(y.Args, anyT) },
		func(y *api.Type) { y.Args[0] = longT },
		func(y *api.Type) { y.Args[1] = longT },
	}
	less := []func(y *api.Type){
		func(y *api.Type) { y.Kind-- },
		func(y *api.Type) { y.Sym = -1 },
		func(y *api.Type) { y.Name = "" },
		func(y *api.Type) { y.Num = -1 << 62 },
		func(y *api.Type) { y.Args = y.Args[:1] },
		func(y *api.Type) { y.Args[0] = anyT },
		func(y *api.Type) { y.Args[1] = node(-1) },
	}
	for i := range greater {
		wantOrder(t, "a greater field", x, change(greater[i]), -1)
		wantOrder(t, "a lesser field", x, change(less[i]), 1)
		for k := i + 1; k < len(less); k++ {
			both := change(func(y *api.Type) { less[k](y); greater[i](y) })
			wantOrder(t, "a greater field ahead of a lesser one", x, both, -1)
			both = change(func(y *api.Type) { greater[k](y); less[i](y) })
			wantOrder(t, "a lesser field ahead of a greater one", x, both, 1)
		}
	}
	wantOrder(t, "nil and empty Args", node(api.TAnd), api.Type{Kind: api.TAnd, Args: []api.Type{}}, 0)
	wantOrder(t, "bytes of names", refined("B"), refined("a"), -1)
	wantOrder(t, "more Args ahead of the first of them", or(longT, longT), or(intT, intT, intT), -1)
}

// P7.1: Compare looks at api.MaxNest levels only.
func TestCompareLevels(t *testing.T) {
	wantOrder(t, "level 64", arrays(63, intT), arrays(63, longT), -1)
	wantOrder(t, "level 65", arrays(64, intT), arrays(64, longT), 0)
	wantOrder(t, "the number of Args of level 64", arrays(63, array(intT)), arrays(63, intT), 1)
	wantOrder(t, "the number of Args of level 65", arrays(64, array(intT)), arrays(64, array(or(intT, intT))), 0)
	wantOrder(t, "behind what is too deep", or(arrays(70, intT), intT), or(arrays(70, longT), longT), -1)
	wantOrder(t, "many nodes", or(append(times(5000, intT), anyT)...), or(append(times(5000, intT), intT)...), -1)
	wantOrder(t, "a cycle with itself", cyclic(api.TOr), cyclic(api.TOr), 0)
	wantOrder(t, "two cycles", cyclic(api.TOr), or(cyclic(api.TOr), cyclic(api.TAnd)), 1)
	wantOrder(t, "shared nodes", shared(40, intT), shared(40, intT), 0)
	wantOrder(t, "shared nodes with another end", shared(40, intT), shared(40, longT), -1)
	wantOrder(t, "shared nodes with another end at level 64", shared(64, intT), shared(64, longT), -1)
	wantOrder(t, "shared nodes with another end at level 65", shared(65, intT), shared(65, longT), 0)
	// One list stands at two levels: what is equal where it is cut off need not
	// be equal further up.
	deepA, deepB := arrays(30, intT), arrays(30, longT)
	la, lb := append(times(MaxSize, intT), deepA), append(times(MaxSize, intT), deepB)
	wantOrder(t, "lists at two levels",
		or(arrays(50, api.Type{Kind: api.TOr, Args: la}), api.Type{Kind: api.TOr, Args: la}),
		or(arrays(50, api.Type{Kind: api.TOr, Args: lb}), api.Type{Kind: api.TOr, Args: lb}), -1)
}

// P7.5: Compare is a total order.
func TestCompareTotal(t *testing.T) {
	d := dice(3)
	for range 30000 {
		x, y, z := d.raw(2), d.raw(2), d.raw(2)
		if Compare(x, x) != 0 || Compare(x, y) != -Compare(y, x) || Equal(x, y) != same(x, y) {
			t.Fatalf("Compare of %s and %s: %d", show(x), show(y), Compare(x, y))
		}
		if Compare(x, y) <= 0 && Compare(y, z) <= 0 && Compare(x, z) > 0 {
			t.Fatalf("Compare of %s, %s and %s is not transitive", show(x), show(y), show(z))
		}
	}
}
