package types

import (
	"cmp"

	"newel/api"
)

// Compare returns -1, 0 or 1: the order of types.
func Compare(a, b api.Type) int {
	c := &comparison{}
	return c.types(&a, &b, 1)
}

// Equal reports whether two types are equal.
func Equal(a, b api.Type) bool { return Compare(a, b) == 0 }

// pair are two lists that were compared at a level.
type pair struct {
	a, b  list
	level int
}

// comparison remembers which lists are equal as soon as it has seen so many
// nodes that the types may have shared lists.
type comparison struct {
	seen  int
	equal map[pair]bool
}

func (c *comparison) types(a, b *api.Type, level int) int {
	c.seen++
	order := cmp.Or(
		cmp.Compare(a.Kind, b.Kind),
		cmp.Compare(a.Sym, b.Sym),
		cmp.Compare(a.Name, b.Name),
		cmp.Compare(a.Num, b.Num),
		cmp.Compare(len(a.Args), len(b.Args)),
	)
	if order != 0 || len(a.Args) == 0 || level >= api.MaxNest {
		return order
	}
	return c.lists(a.Args, b.Args, level+1)
}

// lists compares two lists of the same length.
func (c *comparison) lists(a, b []api.Type, level int) int {
	key := pair{list{&a[0], len(a)}, list{&b[0], len(b)}, level}
	if key.a == key.b || c.equal[key] {
		return 0
	}
	for i := range a {
		if order := c.types(&a[i], &b[i], level); order != 0 {
			return order
		}
	}
	if c.seen > MaxSize {
		if c.equal == nil {
			c.equal = map[pair]bool{}
		}
		c.equal[key] = true
	}
	return 0
}
