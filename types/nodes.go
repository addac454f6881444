package types

import (
	"iter"
	"maps"
	"slices"

	"newel/api"
)

// place is a node with the place of the node around it (nil: none), and its
// index among the Args of that.
type place struct {
	node   *api.Type
	around *place
	index  int
}

// nodes ranges over the nodes of a type in preorder. Types can share Args, even
// with a node inside of them: who ranges over a type that may be beyond the
// limits has to stop.
func nodes(t api.Type) iter.Seq[*place] {
	return func(yield func(*place) bool) {
		visit(&place{node: &t}, yield)
	}
}

func visit(p *place, yield func(*place) bool) bool {
	if !yield(p) {
		return false
	}
	for i := range p.node.Args {
		if !visit(&place{&p.node.Args[i], p, i}, yield) {
			return false
		}
	}
	return true
}

// binds reports whether a node is a binder for what stands in one of its Args.
func binds(t *api.Type, index int) bool {
	switch t.Kind {
	case api.TLambda:
		return index == 0
	case api.TMatch:
		return index > 0
	}
	return false
}

// binder returns the node to which the TBound at a place belongs, nil if there
// is none.
func (p *place) binder() *api.Type {
	left := p.node.Sym
	for ; p.around != nil; p = p.around {
		if !binds(p.around.node, p.index) {
			continue
		}
		if left == 0 {
			return p.around.node
		}
		left--
	}
	return nil
}

// Size returns the number of nodes of a type, at most MaxSize + 1.
func Size(t api.Type) int { return counted(t.Args, 1) }

// counted adds the nodes of a list to a number of nodes, and stops beyond the
// limit.
func counted(l []api.Type, n int) int {
	for i := range l {
		if n > MaxSize {
			break
		}
		n = counted(l[i].Args, n+1)
	}
	return n
}

// Depth returns how deep the nodes of a type are nested, at most api.MaxNest +
// 1.
func Depth(t api.Type) int {
	if Size(t) <= MaxSize {
		return min(levels(t.Args)+1, api.MaxNest+1)
	}
	depth := 1
	level := below([][]api.Type{{t}})
	for len(level) > 0 && depth <= api.MaxNest {
		depth++
		level = below(level)
	}
	return depth
}

// levels returns how deep the nodes of a list are nested that is known to end.
func levels(l []api.Type) int {
	n := 0
	for i := range l {
		n = max(n, levels(l[i].Args)+1)
	}
	return n
}

// list names a list of types that is not empty by where it is.
type list struct {
	first *api.Type
	size  int
}

// below returns the lists of the nodes under those of a level, each list once:
// a type with shared lists can have more nodes than anyone can visit.
func below(level [][]api.Type) [][]api.Type {
	var next [][]api.Type
	seen := map[list]bool{}
	for _, l := range level {
		for i := range l {
			args := l[i].Args
			if len(args) == 0 || seen[list{&args[0], len(args)}] {
				continue
			}
			seen[list{&args[0], len(args)}] = true
			next = append(next, args)
		}
	}
	return next
}

// sortedKeys returns the elements of a set in increasing order.
func sortedKeys(set map[int]bool) []int {
	return slices.Sorted(maps.Keys(set))
}
