package types

import (
	"slices"

	"newel/api"
)

// parts returns the parts of a type: what its values belong to.
func parts(t api.Type) []api.Type {
	if t.Kind == api.TAnd {
		return t.Args
	}
	return []api.Type{t}
}

// absorption compares the types of a union by their parts, which are numbered:
// there can be so many pairs of types that comparing the parts themselves
// takes too long.
type absorption struct {
	kinds   []int   // of each part
	parts   [][]int // of each type
	marked  []int   // of each part the last type that was marked and has it
	hasNull bool    // whether the last type that was marked has TNull
}

func newAbsorption(l []api.Type) *absorption {
	var all []api.Type
	for _, t := range l {
		all = append(all, parts(t)...)
	}
	all = distinct(all)
	a := &absorption{}
	for _, x := range all {
		a.kinds = append(a.kinds, x.Kind)
		a.marked = append(a.marked, -1)
	}
	for _, t := range l {
		var numbers []int
		for _, x := range parts(t) {
			i, _ := slices.BinarySearchFunc(all, x, Compare)
			numbers = append(numbers, i)
		}
		a.parts = append(a.parts, numbers)
	}
	return a
}

// mark makes a type the one that others may absorb.
func (a *absorption) mark(index int) {
	a.hasNull = false
	for _, part := range a.parts[index] {
		a.marked[part] = index
		a.hasNull = a.hasNull || a.kinds[part] == api.TNull
	}
}

// absorbs reports whether a type absorbs the one that was marked.
func (a *absorption) absorbs(other, marked int) bool {
	for _, part := range a.parts[other] {
		if a.marked[part] != marked && !(a.hasNull && isReference(a.kinds[part])) {
			return false
		}
	}
	return true
}

// withoutAbsorbed returns the types of a list that no other one of them
// absorbs.
func withoutAbsorbed(l []api.Type) []api.Type {
	a := newAbsorption(l)
	var left []api.Type
	for i, t := range l {
		a.mark(i)
		absorbed := false
		for k := range l {
			if k != i && a.absorbs(k, i) {
				absorbed = true
				break
			}
		}
		if !absorbed {
			left = append(left, t)
		}
	}
	return left
}
