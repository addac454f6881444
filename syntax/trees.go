package syntax

import (
	"iter"
	"maps"
	"slices"

	"newel/api"
)

// list identifies a list of nodes by its memory. Any lists may be given: nodes
// may share them, and a list may even contain itself. What looks at all nodes
// looks at each list once, so that it ends.
type list struct {
	first *Node
	size  int
}

func listOf(l []Node) list {
	if len(l) == 0 {
		return list{}
	}
	return list{&l[0], len(l)}
}

// preorder visits a node and all below it.
func preorder(n *Node) iter.Seq[*Node] {
	return func(yield func(*Node) bool) { visit(n, yield) }
}

// visit reports whether the visitor wants to go on.
func visit(n *Node, yield func(*Node) bool) bool {
	if !yield(n) {
		return false
	}
	for i := range n.Kids {
		if !visit(&n.Kids[i], yield) {
			return false
		}
	}
	return true
}

// Size returns the number of nodes.
func Size(n Node) int {
	size := 0
	for range preorder(&n) {
		size++
		if size > api.MaxNodes {
			break
		}
	}
	return size
}

// Depth returns the nesting.
func Depth(n Node) int {
	depth := 1
	level := below([][]Node{{n}})
	for len(level) > 0 && depth <= api.MaxNest {
		depth++
		level = below(level)
	}
	return depth
}

// below returns the lists of the nodes under those of a level.
func below(level [][]Node) [][]Node {
	var next [][]Node
	seen := map[list]bool{}
	for _, nodes := range level {
		for i := range nodes {
			kids := nodes[i].Kids
			if key := listOf(kids); len(kids) > 0 && !seen[key] {
				seen[key] = true
				next = append(next, kids)
			}
		}
	}
	return next
}

// exceeds reports whether a tree is beyond the limits of trees.
func exceeds(n Node) bool {
	return Depth(n) > api.MaxNest || Size(n) > api.MaxNodes
}

// Equal reports whether two trees are equal but for offsets.
func Equal(a, b Node) bool {
	seen := map[[2]list]bool{}
	work := [][2][]Node{{{a}, {b}}}
	for len(work) > 0 {
		last := len(work) - 1
		l, m := work[last][0], work[last][1]
		work = work[:last]
		if len(l) != len(m) {
			return false
		}
		for i := range l {
			if l[i].Kind != m[i].Kind || l[i].Text != m[i].Text || l[i].Num != m[i].Num {
				return false
			}
			pair := [2]list{listOf(l[i].Kids), listOf(m[i].Kids)}
			if pair[0] != pair[1] && !seen[pair] {
				seen[pair] = true
				work = append(work, [2][]Node{l[i].Kids, m[i].Kids})
			}
		}
	}
	return true
}

// Count returns how many nodes have a kind.
func Count(n Node, kind int) int {
	if exceeds(n) {
		return 0
	}
	count := 0
	for x := range preorder(&n) {
		if x.Kind == kind {
			count++
		}
	}
	return count
}

// Names returns the names that occur in a tree.
func Names(n Node) []string {
	if exceeds(n) {
		return nil
	}
	found := map[string]bool{}
	for x := range preorder(&n) {
		if isUse(x.Kind) {
			found[x.Text] = true
		}
	}
	return slices.Sorted(maps.Keys(found))
}

// isUse reports whether nodes of a kind use the name that they have.
func isUse(kind int) bool { return kind == XName || kind == TName }

// Rename renames a name in a tree.
func Rename(n Node, from, to string) Node {
	if exceeds(n) {
		return copied(n, map[list][]Node{})
	}
	return renamed(n, from, to)
}

func renamed(n Node, from, to string) Node {
	if isUse(n.Kind) && n.Text == from {
		n.Text = to
	}
	n.Kids = slices.Clone(n.Kids)
	for i := range n.Kids {
		n.Kids[i] = renamed(n.Kids[i], from, to)
	}
	return n
}

// copied returns a tree of any size as it is, in new memory; done has the
// copies of lists.
func copied(n Node, done map[list][]Node) Node {
	key := listOf(n.Kids)
	kids, ok := done[key]
	if !ok {
		kids = slices.Clone(n.Kids)
		done[key] = kids
		for i := range kids {
			kids[i] = copied(kids[i], done)
		}
	}
	n.Kids = kids
	return n
}
