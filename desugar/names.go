package desugar

import (
	"strconv"

	"newel/api"
	"newel/syntax"
)

// maxFresh is how many names Fresh returns at most.
const maxFresh = 1000

// Fresh returns fresh names for a tree.
func Fresh(n syntax.Node, count int) ([]string, api.Errno) {
	if count < 0 || count > maxFresh {
		return nil, api.ErrRange
	}
	next := freshNames(n)
	var names []string
	for range count {
		names = append(names, next())
	}
	return names, api.OK
}

// freshNames returns the function that takes the next fresh name of a tree.
func freshNames(n syntax.Node) func() string {
	taken := texts(n)
	number := 0
	return func() string {
		for {
			number++
			if name := "_" + strconv.Itoa(number); !taken[name] {
				return name
			}
		}
	}
}

// list identifies a list of nodes by its memory: nodes may share lists, and a
// list may even contain itself.
type list struct {
	first *syntax.Node
	size  int
}

// texts returns the Texts of all nodes. It looks at each list once, so that it
// ends for any tree.
func texts(n syntax.Node) map[string]bool {
	found := map[string]bool{}
	seen := map[list]bool{}
	work := [][]syntax.Node{{n}}
	for len(work) > 0 {
		last := len(work) - 1
		nodes := work[last]
		work = work[:last]
		for _, k := range nodes {
			found[k.Text] = true
			if len(k.Kids) == 0 {
				continue
			}
			if key := (list{&k.Kids[0], len(k.Kids)}); !seen[key] {
				seen[key] = true
				work = append(work, k.Kids)
			}
		}
	}
	return found
}

// Bound returns the names that a pattern binds.
func Bound(p syntax.Node) []string {
	if p.Kind < syntax.PWild || p.Kind > syntax.PAlt || syntax.Check(p).Code != api.OK {
		return nil
	}
	var names []string
	var visit func(syntax.Node)
	visit = func(n syntax.Node) {
		if n.Kind == syntax.PBind || n.Kind == syntax.PTyped && n.Text != "_" {
			names = append(names, n.Text)
		}
		for _, k := range n.Kids {
			visit(k)
		}
	}
	visit(p)
	return names
}
