package types

import (
	"strings"
	"testing"

	"newel/api"
)

// textCase is a type with its text.
type textCase struct {
	t    api.Type
	text string
}

// P7.4: each form of Text, and Read of it.
func textCases() []textCase {
	return []textCase{
		{anyT, "Any"}, {nothingT, "Nothing"}, {nullT, "Null"}, {unitT, "Unit"}, {booleanT, "Boolean"},
		{charT, "Char"}, {intT, "Int"}, {longT, "Long"}, {stringT, "String"},
		{class(box, intT), "Box[Int]"},
		{class(box, wild(nothingT, intT)), "Box[(? >: Nothing <: Int)]"},
		{class(pair2, intT, class(box, anyT)), "Pair[Int, Box[Any]]"},
		{class(obj), "Obj#[]"},
		{class(boxOb), "Box#[]"},
		{class(leaf), "Leaf[]"},
		{class(in, intT), "Obj#.In[Int]"},
		{class(deep), "Obj#.In.Deep#[]"},
		{class(plus), "Obj#.In.Deep#.+[]"},
		{param(boxA), "A'0"},
		{param(runM), "Int'5"},
		{param(freeX), "=>'7"},
		{member(boxT, this(box)), "this(Box).T'0"},
		{member(inV, local(runZ)), "z@3.V'2"},
		{member(boxT, field(inOp, this(plus))), "this(Obj#.In.Deep#.+).*:@3.T'0"},
		{this(obj), "this(Obj#)"},
		{local(runX), "x@0"},
		{local(runY), "Array@1"},
		{field(objF, local(runX)), "x@0.f@0"},
		{field(inOp, field(objF, this(obj))), "this(Obj#).f@0.*:@3"},
		{and(intT, anyT), "(Int & Any)"},
		{and(intT, anyT, param(freeX)), "(Int & Any & =>'7)"},
		{or(intT, longT), "(Int | Long)"},
		{or(and(intT, anyT), longT, or(nullT, charT)), "((Int & Any) | Long | (Null | Char))"},
		{fun(intT), "(() => Int)"},
		{fun(intT, longT), "((Int) => Long)"},
		{fun(intT, anyT, longT), "((Int, Any) => Long)"},
		{fun(fun(intT), longT), "(((() => Int)) => Long)"},
		{fun(longT, fun(intT, unitT)), "((Long) => ((Int) => Unit))"},
		{fun(or(intT, longT), unitT), "(((Int | Long)) => Unit)"},
		{or(fun(intT, longT), unitT), "(((Int) => Long) | Unit)"},
		{fun(byName(intT), repeat(anyT), longT), "(((=> Int), (Any *)) => Long)"},
		{array(intT), "Array(Int)"},
		{array(fun(intT)), "Array((() => Int))"},
		{byName(intT), "(=> Int)"},
		{byName(fun(intT)), "(=> (() => Int))"},
		{repeat(and(intT, anyT)), "((Int & Any) *)"},
		{lambda(1, intT), "{1 => Int}"},
		{lambda(12, bound(11, 0)), "{12 => #11^0}"},
		{lambda(2, match(0, intT, bound(1, 1), lambdaApplied())), "{2 => (Int match 0 {#1^1 => {1 => #0^0}(Int)})}"},
		{apply(lambda(1, bound(0, 0)), intT), "{1 => #0^0}(Int)"},
		{apply(param(runG), intT, anyT), "G'6(Int, Any)"},
		{apply(member(objU, local(runX)), array(intT)), "x@0.U'1(Array(Int))"},
		{class(higher, lambda(1, array(bound(0, 0)))), "Higher[{1 => Array(#0^0)}]"},
		{match(1, param(inC), array(bound(0, 0)), bound(0, 0)), "(C'4 match 1 {Array(#0^0) => #0^0})"},
		{match(0, intT, intT, anyT, anyT, fun(intT)), "(Int match 0 {Int => Any} {Any => (() => Int)})"},
		{refined("T", class(obj), nothingT, intT), "(Obj#[] with T >: Nothing <: Int)"},
		{refined("<:", or(intT, longT), nothingT, refined(">:", intT, intT, intT)), "((Int | Long) with <: >: Nothing <: (Int with >: >: Int <: Int))"},
		{variable(0), "?0"},
		{variable(99), "?99"},
	}
}

func lambdaApplied() api.Type { return apply(lambda(1, bound(0, 0)), intT) }

func TestText(t *testing.T) {
	env := sample()
	for _, c := range textCases() {
		if got, code := Text(env, c.t); got != c.text || code != api.OK {
			t.Errorf("Text(%s) = %q, %v, want %q", show(c.t), got, code, c.text)
		}
		got, fault := Read(env, c.text)
		if fault != (api.Fault{}) {
			t.Errorf("Read(%q): %v", c.text, fault)
		}
		wantType(t, "Read of "+c.text, got, c.t)
	}
}

// P7.4: the errors of Text: that of Check, of symbols.FullName, and the limit.
func TestTextErrors(t *testing.T) {
	env := sample()
	for _, c := range []struct {
		what string
		t    api.Type
		want api.Errno
	}{
		{"no type", api.Type{}, api.ErrKind},
		{"a form", api.Type{Kind: api.TInt, Sym: 1}, api.ErrForm},
		{"no class", class(99), api.ErrRange},
		{"a class without arguments", class(box), api.ErrArity},
		{"a wildcard", wild(intT, intT), api.ErrInvalid},
		{"a type with 2001 nodes", wide(2001), api.ErrLimit},
		{"a type with 65 levels", arrays(64, intT), api.ErrDepth},
		{"a cycle", cyclic(api.TOr), api.ErrLimit},
	} {
		got, code := Text(env, c.t)
		wantCode(t, "Text of "+c.what, code, c.want)
		if got != "" {
			t.Errorf("Text of %s: %q beside an error", c.what, got)
		}
	}
	env.P.Classes = append([]api.Class{}, env.P.Classes...)
	env.P.Classes[in].Owner = deep
	long := this(box)
	for _, x := range []api.Type{class(plus), this(in), fun(long, class(deep)), fun(this(deep), this(box))} {
		_, code := Text(env, x)
		wantCode(t, "Text of a class that is inside of itself", code, api.ErrCycle)
	}
	_, code := Text(env, fun(class(deep), node(99)))
	wantCode(t, "Text of a wrong type with such a class", code, api.ErrKind)
	if s, code := Text(env, this(box)); s != "this(Box)" || code != api.OK {
		t.Errorf("Text of another class: %q, %v", s, code)
	}
}

// nested returns a program with a class whose full name has more than n bytes.
func nested(n int) api.Env {
	env := sample()
	env.P.Classes = nil
	for owner := -1; n > 0; owner++ {
		size := min(n, 64)
		env.P.Classes = append(env.P.Classes, api.Class{Name: strings.Repeat("n", size), Owner: owner, Parents: []api.Type{anyT}})
		n -= size
	}
	return env
}

// almost returns a type whose text is between 30 and 80 bytes shorter than the
// limit.
func almost(t *testing.T) (api.Env, api.Type, int) {
	t.Helper()
	for n := 100; n < 200; n++ {
		env := nested(n)
		last := class(len(env.P.Classes) - 1)
		x := spread(times(api.MaxText/(n+6), last))
		s, code := Text(env, x)
		if left := api.MaxText - len(s); code == api.OK && left >= 30 && left <= 80 {
			return env, x, left
		}
	}
	t.Fatal("no text is almost as long as the limit")
	return api.Env{}, api.Type{}, 0
}

// P7.4: exactly api.MaxText bytes, and one more.
func TestTextLimit(t *testing.T) {
	env, x, left := almost(t)
	grown := func(by int) api.Type {
		y := deepCopy(x)
		p := &y
		for len(p.Args) > 0 {
			p = &p.Args[0]
		}
		*p = refined(strings.Repeat("a", by-len("( with  >: Any <: Any)")), *p, anyT, anyT)
		return y
	}
	if s, code := Text(env, grown(left)); code != api.OK || len(s) != api.MaxText {
		t.Errorf("Text of 65536 bytes: %d bytes, %v", len(s), code)
	} else if y, fault := Read(env, s); fault != (api.Fault{}) || !same(y, grown(left)) {
		t.Errorf("Read of 65536 bytes: %v", fault)
	}
	if s, code := Text(env, grown(left+1)); code != api.ErrLimit || s != "" {
		t.Errorf("Text of 65537 bytes: %d bytes, %v", len(s), code)
	}
	wantFault(t, env, strings.Repeat("a", api.MaxText), api.ErrSyntax)
	wantFault(t, env, strings.Repeat("a", api.MaxText+1), api.ErrLimit)
	wantFault(t, env, strings.Repeat("(", api.MaxText), api.ErrSyntax)
	wantFault(t, env, strings.Repeat("{1 => ", api.MaxText/6), api.ErrSyntax)
	wantFault(t, env, "A'"+strings.Repeat("0", api.MaxText-2), api.ErrSyntax)
	wantFault(t, env, "Int"+strings.Repeat(" ", api.MaxText-2), api.ErrLimit)
	// An error of a name is ahead of the limit, wherever it stands.
	env.P.Classes = append(env.P.Classes, api.Class{Name: "C", Owner: len(env.P.Classes)})
	_, code := Text(env, fun(x, grown(left), class(len(env.P.Classes)-1)))
	wantCode(t, "Text of what is too long, with a class inside of itself", code, api.ErrCycle)
}

func wantFault(t *testing.T, env api.Env, s string, code api.Errno) {
	t.Helper()
	x, fault := Read(env, s)
	if fault != (api.Fault{Code: code}) {
		t.Errorf("Read(%.60q): %v, want %v", s, fault, code)
	}
	wantZero(t, "Read of "+s[:min(len(s), 60)], x)
}

// P7.4: texts that no type has.
func TestReadFaults(t *testing.T) {
	env := sample()
	for _, s := range []string{
		"", " ", "int", "None", "Int ", " Int", "Int\n", "Int[]", "Int Int", "Any'", "Array", "this",
		"Box", "Box[]", "Box[Int", "Box[ Int]", "Box[Int ]", "Box[Int]]", "Box[Int, Int]", "Box[,]", "Box[Int,]", "Box[Int, ]", "Box [Int]", "Box(Int)",
		"Pair[Int,Any]", "Pair[Int  , Any]", "Pair[Int,  Any]", "Pair[Int; Any]",
		"Obj[]", "Obj#", "Obj##[]", "Obj#.[]", "Obj.In[Int]", "Obj#In[Int]", "Obj#..In[Int]", "In[Int]", "Obj#.In.Deep[]", ".Box[Int]", "#Box[Int]", "[Int]",
		"A", "A'", "A'00", "A'01", "A'+0", "A'-0", "A' 0", "A '0", "A'0 ", "A'1x", "B'0", "'0", "A''0", "A'7", "A'99", "A'99999999999999999999", "A'0x0", "A'0_0",
		"x", "x@", "x@00", "x@-0", "x@1", "y@0", "@0", "x@0.", "x@0..f@0", "x@6", "w@4", "q@5", "x@0@0", "x @0", "x@ 0",
		"x@0.f", "x@0.f@", "x@0.f@00", "x@0.f@1", "x@0.v@1", "x@0.l@2", "x@0.@0", "x@0 .f@0", "x@0. f@0", "x@0.f@4", "x@0.f@0.", "f@0",
		"x@0.T'1", "x@0.T'00", "x@0.T'0.f@0", "x@0.T'0.T'0", "A'0.T'0", "Box[Int].T'0", "T'0", "x@0.T'3", "x@0.T", "x@0.U'1()", "x@0.T'0(Int)",
		"this()", "this(Box", "this(Box )", "this( Box)", "this(Box[])", "this (Box)", "this(Bo)", "this(Obj)", "this(Obj#).", "this(Obj#.)", "this(Box)(Int)", "this(99)",
		"(Int)", "()", "(", ")", "(Int & )", "(Int &Any)", "(Int&Any)", "(Int  & Any)", "(Int & Any", "(Int & Any))", "(Int & Any | Null)", "(Int | Any & Null)", "( Int & Any)", "(Int & Any )", "Int & Any", "(& Int)", "(Int &  Any)",
		"((Int) => )", "((Int) =>Any)", "((Int)=> Any)", "((Int) => Any", "(Int => Any)", "((Int => Any)", "(() => )", "((), Int)", "(()) => Int", "((Int) => Any) => Int", "((Int Any) => Int)", "((Int,Any) => Int)", "((, Int) => Int)", "((Int, ) => Int)", "((Int) -> Any)", "(( ) => Int)", "((Int) & Any)", "((Int) | Any)", "((Int))",
		"((Any *, Int) => Int)", "(((Any *), Int) => Int)", "((Int) => (=> Int))", "(((=> (=> Int))) => Int)", "((Int) => (Int *))",
		"Array()", "Array( Int)", "Array(Int )", "Array(Int", "Array[Int]", "Array (Int)", "Array(Int, Int)", "Array((=> Int))", "Array((Int *))", "Array(({1 => Int}))", "Array({1 => Int})",
		"(=>)", "(=> )", "(=>Int)", "(=>  Int)", "(=> Int", "( => Int)", "(=> Int )", "=> Int",
		"(Int*)", "(Int * )", "(Int *", "(*)", "( *)", "(Int  *)", "Int *",
		"{1 => }", "{1=> Int}", "{1 =>Int}", "{1 => Int", "{ 1 => Int}", "{01 => Int}", "{0 => Int}", "{13 => Int}", "{-1 => Int}", "{+1 => Int}", "{ => Int}", "{1 => Int }", "{}", "{1}", "{1 => {1 => Int}}", "{1 => #1^0}", "{1 => #0^1}", "{1 => # 0^0}", "{1 => #0 ^0}", "{1 => #0^ 0}", "{1 => #00^0}", "{1 => #0^00}", "{1 => #^0}", "{1 => #0^}", "{1 => #0}", "{1 => #-0^0}", "#0^0", "#",
		"{1 => Int}()", "{1 => Int}(Int, Int)", "{1 => Int} (Int)", "{1 => Int}(Int)(Int)", "{1 => Int}(Int", "{1 => Int}( Int)", "A'0(Int)", "G'6(Int", "G'6(Int,Int)(", "G'6(Int)", "Int(Int)", "?0(Int)", "{1 => #0^0(Int)}", "({1 => Int})(Int)",
		"(Int match 0)", "(Int match {Int => Int})", "(Int match 0 {})", "(Int match 0 {Int})", "(Int match 0 {Int => })", "(Int match 0 {Int => Int)", "(Int match 0 {Int => Int}", "(Int match 0{Int => Int})", "(Int match 0  {Int => Int})", "(Int match  0 {Int => Int})", "(Int match 00 {Int => Int})", "(Int match 13 {Int => Int})", "(Int match -1 {Int => Int})", "(Int match 0 { Int => Int})", "(Int match 0 {Int => Int }{Int => Int})", "(Int match 0 {Int => Int} )", "(Int match 0 {Int=> Int})", "(Int match 0 {#0^0 => Int})", "(#0^0 match 1 {Int => Int})", "Int match 0 {Int => Int}",
		"(Int with T)", "(Int with T >: Int)", "(Int with T >: Int <: )", "(Int with T <: Int >: Int)", "(Int with  >: Int <: Int)", "(Int with 1 >: Int <: Int)", "(Int with T >:Int <: Int)", "(Int with T >: Int <: Int", "(Int with T>: Int <: Int)", "(Int with T U >: Int <: Int)", "(Int with T >: Int  <: Int)", "(with T >: Int <: Int)", "(Int with T >: {1 => Int} <: Int)", "(Int with " + strings.Repeat("T", 65) + " >: Int <: Int)",
		"(? >: Int <: Int)", "Array((? >: Int <: Int))", "Box[(?  >: Int <: Int)]", "Box[(? >: Int)]", "Box[(? <: Int)]", "Box[(? <: Int >: Int)]", "Box[(? >: Int <: Int]", "Box[? >: Int <: Int]", "Box[(?>: Int <: Int)]", "Box[?]", "Box[(?)]", "Box[(? >: {1 => Int} <: Int)]",
		"?", "?-1", "? 0", "?00", "?01", "?100", "?x", "?'0", "??0", "?0?", "?+1",
		"Int\x00", "\x00", "\xff", "Int'0", "Int@0", "é'0", "A'٣",
	} {
		wantFault(t, env, s, api.ErrSyntax)
	}
	wantFault(t, api.Env{P: env.P}, "x@0", api.ErrSyntax)
}

// P7.4: a text that is cut off is the text of no type, or of another one.
func TestReadCut(t *testing.T) {
	env := sample()
	for _, c := range textCases() {
		for i := range len(c.text) {
			wantSame(t, env, c.text[:i])
			wantSame(t, env, c.text[i:])
		}
	}
}

// wantSame wants that Read accepts a text only if it is that of the type, and
// is right.
func wantSame(t *testing.T, env api.Env, s string) bool {
	t.Helper()
	x, fault := Read(env, s)
	if fault == (api.Fault{Code: api.ErrSyntax}) {
		wantZero(t, "Read of "+s, x)
		return false
	}
	if got, code := Text(env, x); fault != (api.Fault{}) || code != api.OK || got != s {
		t.Errorf("Read(%q) = %s, %v; its Text is %q, %v", s, show(x), fault, got, code)
	}
	return true
}

// P7.4: of several classes with a full name the first one counts.
func TestReadTwice(t *testing.T) {
	env := sample()
	env.P.Classes = append([]api.Class{}, env.P.Classes...)
	env.P.Classes[leaf].Name = "Box"
	x, fault := Read(env, "this(Box)")
	if fault != (api.Fault{}) {
		t.Errorf("Read of a full name that two classes have: %v", fault)
	}
	wantType(t, "Read of a full name that two classes have", x, this(box))
	if s, code := Text(env, class(leaf)); s != "Box[]" || code != api.OK {
		t.Errorf("Text of the second class: %q, %v", s, code)
	}
	// The first one has an argument.
	wantFault(t, env, "Box[]", api.ErrSyntax)
	if x, fault := Read(env, "Box[Int]"); fault != (api.Fault{}) || x.Sym != box {
		t.Errorf("Read of the first class: %s, %v", show(x), fault)
	}
	// A class that is inside of itself has no full name.
	env.P.Classes[in].Owner = deep
	wantFault(t, env, "this(Obj#.In)", api.ErrSyntax)
	wantFault(t, env, "this()", api.ErrSyntax)
	if x, fault := Read(env, "this(Obj#)"); fault != (api.Fault{}) || x.Sym != obj {
		t.Errorf("Read beside classes without a full name: %s, %v", show(x), fault)
	}
}

// P7.4: what is nested too deeply, or too large, has no text.
func TestReadLimits(t *testing.T) {
	env := sample()
	arrayText := func(n int) string { return strings.Repeat("Array(", n) + "Int" + strings.Repeat(")", n) }
	wantSame(t, env, arrayText(63))
	if x, fault := Read(env, arrayText(63)); fault != (api.Fault{}) || Depth(x) != 64 {
		t.Errorf("Read of 64 levels: %v", fault)
	}
	wantFault(t, env, arrayText(64), api.ErrSyntax)
	fields := func(n int) string { return "this(Obj#)" + strings.Repeat(".f@0", n) }
	if x, fault := Read(env, fields(63)); fault != (api.Fault{}) || Depth(x) != 64 {
		t.Errorf("Read of 63 fields: %v", fault)
	}
	wantFault(t, env, fields(64), api.ErrSyntax)
	large, _ := Text(env, wide(2000))
	if x, fault := Read(env, large); fault != (api.Fault{}) || Size(x) != 2000 {
		t.Errorf("Read of 2000 nodes: %v", fault)
	}
	at := strings.LastIndex(large, "Int")
	wantFault(t, env, large[:at]+"Array(Int)"+large[at+3:], api.ErrSyntax)
	twenty := "(" + strings.Repeat("Int | ", 19) + "Int)"
	if x, fault := Read(env, twenty); fault != (api.Fault{}) || len(x.Args) != 20 {
		t.Errorf("Read of 20 parts: %v", fault)
	}
	wantFault(t, env, "("+strings.Repeat("Int | ", 20)+"Int)", api.ErrSyntax)
	wantFault(t, env, "(("+strings.Repeat("Int, ", 12)+"Int) => Int)", api.ErrSyntax)
}

// P7.4 and P7.5: Read of Text is the type, for random types; and what becomes of
// such a text by a small change is the text of no type, or of another one.
func TestReadRandom(t *testing.T) {
	d := dice(31)
	env := sample()
	read := 0
	for range 4000 {
		m := maker{dice: &d, env: env}
		x := m.arity(d.roll(3), 1+d.roll(6))
		if Size(x) > MaxSize {
			continue
		}
		s, code := Text(env, x)
		if code != api.OK {
			t.Fatalf("Text(%s): %v", show(x), code)
		}
		if got, fault := Read(env, s); fault != (api.Fault{}) || !same(got, x) {
			t.Fatalf("Read(%q) = %s, %v, want %s", s, show(got), fault, show(x))
		}
		for range 5 {
			if wantSame(t, env, d.changed(s)) {
				read++
			}
		}
	}
	if read < 100 {
		t.Errorf("%d changed texts are those of types: too few", read)
	}
}

// changed changes some bytes of a text.
func (d *dice) changed(s string) string {
	i := d.roll(len(s))
	k := i + d.roll(min(3, len(s)-i)) + 1
	words := []string{"", " ", "0", "1", "-", "+", "(", ")", "[", "]", "Int", ", ", " & ", " | ", " => ", "A'0", "x@0", "#", ".", "'", "@", "{", "}", "^", "?"}
	switch d.roll(3) {
	case 0:
		return s[:i] + s[k:]
	case 1:
		return s[:i] + words[d.roll(len(words))] + s[i:]
	}
	return s[:i] + words[d.roll(len(words))] + s[k:]
}
