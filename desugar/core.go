package desugar

import (
	"newel/api"
	"newel/syntax"
)

// Core reports whether a tree is a core tree.
func Core(n syntax.Node) bool {
	return syntax.Check(n).Code == api.OK && isCore(n)
}

// isCore reports whether a right tree is a core tree.
func isCore(n syntax.Node) bool {
	if n.Kind == syntax.PLiteral {
		return true
	}
	if !isCoreNode(n) {
		return false
	}
	for _, k := range n.Kids {
		if !isCore(k) {
			return false
		}
	}
	return true
}

// isCoreNode reports whether nothing would replace a node. Definitions stand in
// their places, if no block has others than its own: no other node has any.
func isCoreNode(n syntax.Node) bool {
	switch n.Kind {
	case syntax.SExtension, syntax.SEnumCase, syntax.XInfix, syntax.XPrefix, syntax.XInterp,
		syntax.XFor, syntax.SGenerator, syntax.SBinding, syntax.SGuard:
		return false
	case syntax.SClass:
		return n.Num != enum
	case syntax.XAssign:
		return n.Text == "=" && isAssigned(n.Kids[0])
	case syntax.XIf:
		return n.Kids[2].Kind != syntax.SNone
	case syntax.XReturn:
		return n.Kids[0].Kind != syntax.SNone
	case syntax.SLambdaParam:
		return n.Text != "_"
	case syntax.SLists:
		return misplaced(n.Kids) < 0
	case syntax.XBlock:
		return isCoreBlock(n)
	}
	return true
}

func isCoreBlock(n syntax.Node) bool {
	for _, k := range n.Kids {
		if !isStatement(k) {
			return false
		}
	}
	return hasValue(n)
}
