package desugar

import (
	"testing"

	"newel/api"
	"newel/syntax"
)

// tally counts what random trees come to.
type tally struct{ made, faults, cores, big int }

// P5.1, P5.2, P5.4: random right trees, against the oracle.
func TestRandomTrees(t *testing.T) {
	var seen tally
	codes := map[api.Errno]int{}
	for i := range 20000 {
		m := &maker{dice: dice(i), rare: []int{3, 8, 30, 10000}[i/6%4]}
		word, of := "E", Expr
		if i%2 == 0 {
			word, of = "SUnit", Unit
		}
		n := m.tree(word, 2+i%7)
		if code := syntax.Check(n).Code; code == api.ErrLimit {
			continue
		} else if code != api.OK {
			t.Fatalf("tree %d is not right: %d\n%.2000s", i, code, form(n))
		}
		before := form(n)
		got, fault := of(n)
		if before != form(n) {
			t.Fatalf("tree %d was changed:\n%.2000s", i, before)
		}
		codes[fault.Code]++
		seen.judge(t, of, n, got, fault)
		if t.Failed() {
			t.Fatalf("tree %d", i)
		}
	}
	if seen.made < 5000 || seen.faults < 1000 || seen.cores < 300 || seen.big < 10 {
		t.Errorf("the trees are too much alike: %+v", seen)
	}
	for _, code := range []api.Errno{api.ErrName, api.ErrForm, api.ErrFinal, api.ErrEmpty, api.ErrVariance, api.ErrOrder} {
		if codes[code] < 10 {
			t.Errorf("the fault %d comes %d times", code, codes[code])
		}
	}
}

// judge holds a result against the oracle.
func (s *tally) judge(t *testing.T, of func(syntax.Node) (syntax.Node, api.Fault), n, got syntax.Node, fault api.Fault) {
	t.Helper()
	want, first := expected(n)
	switch {
	case Core(n):
		s.cores++
		if fault != (api.Fault{}) || !syntax.Equal(got, n) || !sameOffsets(got, n) {
			t.Errorf("a core tree does not stay:\n%.2000s", form(n))
		}
	case first == api.Fault{}:
		s.made++
		if fault.At == 0 && fault.Code != api.OK { // it may be too large or too deep, and the name of a class may be none of a type
			s.big++
			if made, wrong := syntax.Read(want); wrong.Code == api.OK {
				t.Errorf("fault %v, though there is the core tree\n%.2000s\nof\n%.2000s", fault, form(made), form(n))
			}
			return
		}
		if form(got) != want || fault != (api.Fault{}) {
			t.Errorf("fault %v\n%.2000s\nwant\n%.2000s\nof\n%.2000s", fault, form(got), want, form(n))
		}
		wantCore(t, of, got)
	default:
		s.faults++
		if fault != first && fault != (api.Fault{Code: api.ErrLimit}) || !syntax.Equal(got, syntax.Node{}) {
			t.Errorf("fault %v, want %v of\n%.2000s", fault, first, form(n))
		}
	}
}

// P5.4: fresh names do not occur in the tree: each name that is new in the core
// tree is one that Fresh returns.
func TestNewNames(t *testing.T) {
	for i := range 5000 {
		n := (&maker{dice: dice(i), rare: 10000}).tree("E", 1+i%5)
		got, fault := Expr(n)
		if fault != (api.Fault{}) {
			continue
		}
		had, fresh := texts(n), map[string]bool{"update": true, "map": true, "flatMap": true, "foreach": true, "withFilter": true,
			"s": true, "": true, "!": true, "==": true, "=": true, "+": true, "Nothing": true, "Any": true, "::": true, "<<": true, "&&": true}
		names, _ := Fresh(n, 1000)
		for _, name := range names {
			if had[name] {
				t.Fatalf("%s is no fresh name of\n%.2000s", name, form(n))
			}
			fresh[name] = true
		}
		for text := range texts(got) {
			if !had[text] && !fresh[text] {
				t.Fatalf("%q has come from nowhere in\n%.2000s", text, form(got))
			}
		}
	}
}

// R4: what is returned shares no memory with the argument, nor parts of it with
// one another.
func TestNewMemory(t *testing.T) {
	for i := range 3000 {
		n := (&maker{dice: dice(i), rare: 1000}).tree("E", 1+i%5)
		got, fault := Expr(n)
		if fault != (api.Fault{}) {
			continue
		}
		of, made := form(n), form(got)
		if got.Kids != nil {
			scratch(got, map[*syntax.Node]bool{}, t)
		}
		if form(n) != of {
			t.Fatalf("memory is shared with\n%.2000s", of)
		}
		if again, _ := Expr(n); form(again) != made {
			t.Fatalf("not the same again:\n%.2000s", made)
		}
	}
}

// scratch overwrites a tree, and finds lists that stand in two places.
func scratch(n syntax.Node, seen map[*syntax.Node]bool, t *testing.T) {
	for i := range n.Kids {
		if seen[&n.Kids[i]] {
			t.Fatal("memory is shared within a tree")
		}
		seen[&n.Kids[i]] = true
	}
	for i := range n.Kids {
		scratch(n.Kids[i], seen, t)
		n.Kids[i] = syntax.Node{Kind: -1}
	}
	more := append(n.Kids, syntax.Node{Kind: -2})
	more[0].Kind = -3
}
