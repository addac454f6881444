package desugar

import (
	"strings"
	"testing"

	"newel/api"
	"newel/syntax"
)

// chain returns a right tree of a nesting.
func chain(depth int) syntax.Node {
	n := syntax.Node{Kind: syntax.XName, Text: "a"}
	for range depth - 1 {
		n = syntax.Node{Kind: syntax.XQuote, Kids: []syntax.Node{n}}
	}
	return n
}

// wide returns a core tree of a number of nodes, nested three deep.
func wide(size int) syntax.Node { return filled(size, syntax.Node{Kind: syntax.XName, Text: "a"}) }

// filled returns a block of blocks, of a number of nodes in all, which are x or
// names, so that the last one is a name.
func filled(size int, x syntax.Node) syntax.Node {
	n := syntax.Node{Kind: syntax.XBlock}
	name := syntax.Node{Kind: syntax.XName, Text: "a"}
	for left := size - 1; left > 0; {
		kid := syntax.Node{Kind: syntax.XBlock}
		for left--; left > 0 && len(kid.Kids) < 199; {
			if of := syntax.Size(x); of < left {
				kid.Kids, left = append(kid.Kids, x), left-of
				continue
			}
			kid.Kids, left = append(kid.Kids, name), left-1
		}
		n.Kids = append(n.Kids, kid)
	}
	return n
}

// P5.2: as many nodes as may be, and more than that when nodes were replaced.
func TestManyNodes(t *testing.T) {
	wantTree(t, Expr, wide(api.MaxNodes), wide(api.MaxNodes))
	wantFault(t, "too many nodes", Expr, wide(api.MaxNodes+1), 0, api.ErrLimit)

	minus := syntax.Node{Kind: syntax.XPrefix, Text: "-", Kids: []syntax.Node{{Kind: syntax.XInt, Num: 1}}}
	selected := syntax.Node{Kind: syntax.XSelect, Text: "-", Kids: minus.Kids}
	wantTree(t, Expr, filled(api.MaxNodes, minus), filled(api.MaxNodes, selected))

	n := wide(api.MaxNodes - 2)
	n.Kids[3].Kids[5] = exprOf(t, `b + c`) // two nodes more, and one more when it is replaced
	wantFault(t, "one node more than permitted", Expr, n, 0, api.ErrLimit)
	n.Kids[3].Kids = n.Kids[3].Kids[1:]
	if made, fault := Expr(n); fault != (api.Fault{}) || syntax.Size(made) != api.MaxNodes {
		t.Errorf("as many nodes as may be made: fault %v, %d nodes", fault, syntax.Size(made))
	}
}

// P5.1: more nodes replaced than permitted come ahead of what is behind them,
// and behind the faults that are ahead of them; literals of patterns count just
// for the tree that is made.
func TestTooManyReplaced(t *testing.T) {
	grows := exprOf(t, `1`)
	for range 30 { // twice as large each time
		grows = syntax.Node{Kind: syntax.XAssign, Text: "+=", Kids: []syntax.Node{
			{Kind: syntax.XSelect, Text: "a", Kids: []syntax.Node{{Kind: syntax.XBlock, Kids: []syntax.Node{grows}}}}, {Kind: syntax.XThis}}}
		if syntax.Depth(grows) > 55 {
			break
		}
	}
	fault := syntax.Node{Kind: syntax.XInterp, Text: "t", Kids: []syntax.Node{{Kind: syntax.XString}}, At: 9}
	block := func(kids ...syntax.Node) syntax.Node { return syntax.Node{Kind: syntax.XBlock, Kids: kids, At: 4} }
	wantFault(t, "a tree that grows", Expr, block(grows), 0, api.ErrLimit)
	wantFault(t, "a tree that grows, and a fault", Expr, block(grows, fault), 0, api.ErrLimit)
	wantFault(t, "a fault, and a tree that grows", Expr, block(fault, grows), 9, api.ErrName)

	// Blocks of a match each, whose literals are left out of account.
	literal := syntax.Node{Kind: syntax.PLiteral, Kids: []syntax.Node{{Kind: syntax.XPrefix, Text: "-", Kids: []syntax.Node{{Kind: syntax.XInt}}}}}
	alt := syntax.Node{Kind: syntax.PAlt}
	for range 100 {
		alt.Kids = append(alt.Kids, literal)
	}
	loop := exprOf(t, `for { P(_) <- a; if b } do c`) // its pattern is there twice, then
	loop.Kids[0].Kids[0].Kids[0] = alt
	loops := make([]syntax.Node, 50)
	for i := range loops {
		loops[i] = loop
	}
	wantFault(t, "too many nodes with literals", Expr, block(loops...), 0, api.ErrLimit)
	wantFault(t, "literals do not count ahead of a fault", Expr, block(append(loops, fault)...), 9, api.ErrName)
}

// P5.1: what was made is nested too deeply.
func TestTooDeep(t *testing.T) {
	sums := func(count int) syntax.Node {
		return exprOf(t, strings.Repeat(`(`, count)+`a`+strings.Repeat(` + b)`, count))
	}
	// Each sum is a call of a selection.
	if _, fault := Expr(sums(31)); fault != (api.Fault{}) {
		t.Errorf("as deep as may be: fault %v", fault)
	}
	n := sums(32)
	n.At = 5
	wantFault(t, "one too deep", Expr, n, 0, api.ErrDepth)
	text := syntax.Node{Kind: syntax.XInterp, Text: "s", Kids: []syntax.Node{{Kind: syntax.XString}}}
	for range 199 {
		text.Kids = append(text.Kids, syntax.Node{Kind: syntax.XThis}, syntax.Node{Kind: syntax.XString, Text: "a"})
	}
	wantFault(t, "a long interpolated string", Expr, text, 0, api.ErrDepth)
	loop := syntax.Node{Kind: syntax.XFor}
	for range 199 {
		loop.Kids = append(loop.Kids, syntax.Node{Kind: syntax.SGenerator, Kids: []syntax.Node{{Kind: syntax.PWild}, {Kind: syntax.XThis}}})
	}
	loop.Kids = append(loop.Kids, syntax.Node{Kind: syntax.XNull})
	wantFault(t, "many generators", Expr, loop, 0, api.ErrDepth)
	for i := 1; i < 199; i++ {
		loop.Kids[i].Kind, loop.Kids[i].Kids = syntax.SGuard, loop.Kids[i].Kids[1:]
		if i%2 == 0 {
			loop.Kids[i] = syntax.Node{Kind: syntax.SBinding, Kids: loop.Kids[0].Kids}
		}
	}
	wantFault(t, "many guards and bindings", Expr, loop, 0, api.ErrLimit)
}

// P5.1: what was made has too many kids.
func TestTooManyKids(t *testing.T) {
	names := func(count int) []syntax.Node { return wide(count + 2).Kids[0].Kids }
	val := syntax.Node{Kind: syntax.SVal, Text: "a", Kids: []syntax.Node{{Kind: syntax.SMods}, {}, {Kind: syntax.XThis}}}
	block := syntax.Node{Kind: syntax.XBlock, Kids: append(names(198), val), At: 3}
	if n, fault := Expr(block); fault != (api.Fault{}) || len(n.Kids) != 200 || n.Kids[199].Kind != syntax.XUnit {
		t.Errorf("a block of 200: fault %v", fault)
	}
	block.Kids = append(block.Kids, val)
	wantFault(t, "a block of 201", Expr, block, 0, api.ErrForm)

	left := syntax.Node{Kind: syntax.XApply, Kids: append([]syntax.Node{{Kind: syntax.XThis}}, names(199)...)}
	assign := syntax.Node{Kind: syntax.XAssign, Text: "=", Kids: []syntax.Node{left, {Kind: syntax.XThis}}, At: 3}
	if _, fault := Expr(assign); fault != (api.Fault{}) {
		t.Errorf("an update with 200 arguments: fault %v", fault)
	}
	assign.Kids[0].Kids = append(assign.Kids[0].Kids, syntax.Node{Kind: syntax.XThis})
	wantFault(t, "an update with 201 arguments", Expr, assign, 0, api.ErrForm)
	wantFault(t, "an update behind a named argument", Expr, exprOf(t, `f(a = 1) = 2`), 0, api.ErrForm)

	lists := ` extension (x: X) def f(a: A)(b: B)(c: C)`
	if _, fault := Unit(unitOf(t, lists)); fault != (api.Fault{}) {
		t.Errorf("an extension method with 4 lists: fault %v", fault)
	}
	wantTextFault(t, lists+`(d: D)`, 0, api.ErrForm)
	for _, s := range []string{
		` extension [` + strings.TrimSuffix(strings.Repeat("A, ", 150), ", ") + `] (x: X) def f[` + strings.TrimSuffix(strings.Repeat("B, ", 51), ", ") + `] = 1`,
		` enum E { case ` + strings.TrimSuffix(strings.Repeat("A, ", 200), ", ") + ` }`,
		` enum E[+` + strings.TrimSuffix(strings.Repeat("A, +", 200), ", +") + `] { case A; case B[C](x: C)(y: C) extends D; case E }; extension (x: X) {` +
			strings.Repeat("def f = 1;", 197) + ` }`,
	} {
		wantTextFault(t, s, 0, api.ErrForm)
	}
	if n, fault := Unit(unitOf(t, ` enum E { case `+strings.TrimSuffix(strings.Repeat("A, ", 199), ", ")+` }`)); fault != (api.Fault{}) || len(n.Kids) != 200 {
		t.Errorf("an enum with 199 cases: fault %v", fault)
	}
}

// P5.1: what was made is not right for another reason: the name of a class may
// be none of a type.
func TestNameOfNoType(t *testing.T) {
	s := `(SUnit (SClass "+" 5 (SMods) (SNames) (SLists) (SParents) (SBody (SEnumCase "A" (SNames) (SLists) (SParents%s)))))`
	wantFault(t, s, Unit, moved(shape(t, strings.Replace(s, "%s", "", 1)), 3), 0, api.ErrName)
	if _, fault := Unit(shape(t, strings.Replace(s, "%s", ` (SParent (TName "P"))`, 1))); fault != (api.Fault{}) {
		t.Errorf("a case with a parent: fault %v", fault)
	}
}

// P1: trees of any form.
func TestAnyNodes(t *testing.T) {
	round := []syntax.Node{{Kind: syntax.XBlock}}
	round[0].Kids = round
	shared := syntax.Node{Kind: syntax.XThis}
	for range 60 {
		shared = syntax.Node{Kind: syntax.XBlock, Kids: []syntax.Node{shared, shared}}
	}
	for _, of := range []func(syntax.Node) (syntax.Node, api.Fault){Unit, Expr} {
		wantFault(t, "a list in itself", of, round[0], 0, api.ErrDepth)
		wantFault(t, "shared lists", of, shared, 0, api.ErrLimit)
		wantFault(t, "nested too deeply", of, chain(1<<16), 0, api.ErrDepth)
	}
	if Core(round[0]) || Core(shared) || len(Bound(round[0])) != 0 {
		t.Error("what is no right tree is told to be one")
	}
}
