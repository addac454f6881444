package symbols

import (
	"iter"
	"slices"

	"newel/api"
)

// FindClass returns the first class with an Owner and a Name that is an object,
// or that is none, and -1 without such a class.
func FindClass(p api.Program, owner int, name string, object bool) int {
	for i, k := range p.Classes {
		if k.Owner == owner && k.Name == name && (k.Kind == api.IsObject) == object {
			return i
		}
	}
	return -1
}

// Declared returns the members with a name that a class has in its lists:
// fields, then methods, then type members.
func Declared(p api.Program, class int, name string) []api.Ref {
	t := &tables{p}
	if !t.has(PClass, class) {
		return nil
	}
	var l []api.Ref
	k := p.Classes[class]
	for _, i := range k.Fields {
		if t.has(PField, i) && p.Fields[i].Name == name {
			l = append(l, api.Ref{Kind: api.RefField, Index: i})
		}
	}
	for _, i := range k.Methods {
		if t.has(PMethod, i) && p.Methods[i].Name == name {
			l = append(l, api.Ref{Kind: api.RefMethod, Index: i})
		}
	}
	for _, i := range k.Types {
		if t.has(PTypeMember, i) && p.Types[i].Name == name {
			l = append(l, api.Ref{Kind: api.RefType, Index: i})
		}
	}
	return l
}

// isOf reports whether a parent is of a class.
func isOf(parent api.Type, class int) bool {
	return parent.Kind == api.TClass && parent.Sym == class
}

// Children returns the classes that have a class as a parent.
func Children(p api.Program, class int) []int {
	t := &tables{p}
	if !t.has(PClass, class) {
		return nil
	}
	var l []int
	for i, k := range p.Classes {
		for _, x := range k.Parents {
			if isOf(x, class) {
				l = append(l, i)
				break
			}
		}
	}
	return l
}

// Ancestors returns the classes of the parents of a class, and their ancestors,
// in increasing order.
func Ancestors(p api.Program, class int) []int {
	t := &tables{p}
	if !t.has(PClass, class) {
		return nil
	}
	var l []int
	found := map[int]bool{}
	add := func(k api.Class) {
		for _, x := range k.Parents {
			if x.Kind == api.TClass && t.has(PClass, x.Sym) && !found[x.Sym] {
				found[x.Sym] = true
				l = append(l, x.Sym)
			}
		}
	}
	add(p.Classes[class])
	for next := 0; next < len(l); next++ {
		add(p.Classes[l[next]])
	}
	slices.Sort(l)
	return l
}

// outward ranges over the classes around a class, from the inside on, and stops
// behind as many steps as there are classes: there is a cycle then.
func (t *tables) outward(class int) iter.Seq[int] {
	return func(yield func(int) bool) {
		for range t.p.Classes {
			class = t.p.Classes[class].Owner
			if !t.has(PClass, class) || !yield(class) {
				return
			}
		}
	}
}

// Inside reports whether a class is inside of another one, or of itself by way
// of a cycle.
func Inside(p api.Program, inner, outer int) bool {
	t := &tables{p}
	if !t.has(PClass, inner) || !t.has(PClass, outer) {
		return false
	}
	for owner := range t.outward(inner) {
		if owner == outer {
			return true
		}
	}
	return false
}
