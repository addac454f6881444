package syntax

import (
	"math"

	"newel/api"
)

const flagsOfMods = api.Abstract | api.Final | api.Sealed | api.Private | api.Override | api.Volatile | api.Inline

// Check returns the first fault of a tree.
func Check(n Node) api.Fault {
	if Depth(n) > api.MaxNest {
		return api.Fault{Code: api.ErrDepth}
	}
	if Size(n) > api.MaxNodes {
		return api.Fault{Code: api.ErrLimit}
	}
	at := 0
	for x := range preorder(&n) {
		if e := checkNode(x); e != api.OK {
			return api.Fault{At: at, Code: e}
		}
		at++
	}
	return api.Fault{}
}

// checkNode returns the first fault that a node has for itself.
func checkNode(n *Node) api.Errno {
	if n.Kind < 0 || n.Kind >= Kinds {
		return api.ErrKind
	}
	rule, num := textRule(n.Kind), checkNum(n)
	right := keeps(rule, n.Text)
	switch {
	case !right && asksName(rule):
		return api.ErrName
	case num == api.ErrRange:
		return num
	case !right:
		return api.ErrInvalid
	case num != api.OK:
		return num
	case !matches(forms[n.Kind], n.Kids) || !keepsFurther(n):
		return api.ErrForm
	}
	return api.OK
}

// checkNum returns ErrRange for a Num out of the range of its kind, and
// ErrInvalid for one that must be 0.
func checkNum(n *Node) api.Errno {
	var in bool
	switch n.Kind {
	case SClass:
		in = 0 <= n.Num && n.Num <= 5
	case SDef, SParams, SParent, XApply, XFor:
		in = 0 <= n.Num && n.Num <= 1
	case SVal:
		in = 0 <= n.Num && n.Num <= 2
	case SMods:
		in = n.Num&^flagsOfMods == 0
	case STParam:
		in = api.Contravariant <= n.Num && n.Num <= api.Covariant
	case SParam:
		in = isParam(n.Num)
	case XInt:
		in = 0 <= n.Num && n.Num <= math.MaxInt32
	case XLong:
		in = 0 <= n.Num
	case XChar:
		in = 0 <= n.Num && n.Num <= math.MaxUint8
	default:
		if n.Num != 0 {
			return api.ErrInvalid
		}
		in = true
	}
	if !in {
		return api.ErrRange
	}
	return api.OK
}

// isParam reports whether a number is the Num of a parameter: 0 to 2, and 4 for
// a val or 8 for a var. No parameter is both.
func isParam(num int64) bool {
	switch num &^ 3 {
	case 0, 4, 8:
		return num&3 != 3
	}
	return false
}

// keepsFurther reports whether a node whose Kids have its form keeps the rules
// that no form says.
func keepsFurther(n *Node) bool {
	switch n.Kind {
	case SType:
		return n.Kids[4].Kind == SNone || n.Kids[2].Kind == SNone && n.Kids[3].Kind == SNone
	case SParent: // its Num says whether it has arguments; a list of them may be empty
		return n.Num == 1 || len(n.Kids) == 1
	case XApply:
		return namedLast(n.Kids[1:])
	case XString:
		return len(n.Text) <= api.MaxText
	}
	return true
}

// namedLast reports whether no other argument stands behind an XNamed.
func namedLast(args []Node) bool {
	for i := 1; i < len(args); i++ {
		if args[i-1].Kind == XNamed && args[i].Kind != XNamed {
			return false
		}
	}
	return true
}
