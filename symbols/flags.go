package symbols

import "newel/api"

// Indices of permitted for locals, which are no part.
const (
	local = PMain + iota
	parameter
)

// permitted are the flags that the items of each part may have.
var permitted = [...]int{
	PClass:    api.Abstract | api.Final | api.Sealed | api.Private | api.Case | api.Value | api.Synthetic,
	PMethod:   api.Abstract | api.Final | api.Private | api.Override | api.Given | api.Inline | api.Extension | api.Synthetic,
	PField:    api.Final | api.Private | api.Override | api.Var | api.Lazy | api.Volatile | api.Given | api.Synthetic,
	local:     api.Var | api.Lazy | api.Given | api.Using | api.Synthetic,
	parameter: api.Using | api.Synthetic,
}

// foreign reports whether one of the flags is not permitted. A number below 0
// has bits above all flags, and so a flag that no part has.
func foreign(part, flags int) bool { return flags&^permitted[part] != 0 }

// hasAny reports whether one of some flags is set.
func hasAny(flags, some int) bool { return flags&some != 0 }

// both reports whether two flags are set.
func both(flags, one, other int) bool { return hasAny(flags, one) && hasAny(flags, other) }
