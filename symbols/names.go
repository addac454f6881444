package symbols

import (
	"slices"
	"strings"

	"newel/api"
)

const (
	letters   = "abcdefghijklmnopqrstuvwxyzABCDEFGHIJKLMNOPQRSTUVWXYZ_$"
	digits    = "0123456789"
	operators = "+-*/%<>=!&|^~:?"
)

// IsName reports whether a text is an identifier or the name of an operator.
func IsName(s string) bool {
	if s == "" || len(s) > api.MaxName {
		return false
	}
	if consists(s, operators) {
		return true
	}
	return consists(s, letters+digits) && !consists(s[:1], digits)
}

// consists reports whether each byte of a text is one of some bytes.
func consists(s, bytes string) bool {
	for i := range len(s) {
		if strings.IndexByte(bytes, s[i]) < 0 {
			return false
		}
	}
	return true
}

// FullName returns the name of a class behind the names of the classes around
// it.
func FullName(p api.Program, class int) (string, api.Errno) {
	t := &tables{p}
	if !t.has(PClass, class) {
		return "", api.ErrRange
	}
	path := []int{class}
	for owner := range t.outward(class) {
		path = append(path, owner)
	}
	// Without a cycle there is no class twice, so that all classes but one can
	// stand around another one.
	if len(path) > len(p.Classes) {
		return "", api.ErrCycle
	}
	slices.Reverse(path)
	var b strings.Builder
	for i, k := range path {
		if i > 0 {
			b.WriteByte('.')
		}
		b.WriteString(p.Classes[k].Name)
		if p.Classes[k].Kind == api.IsObject {
			b.WriteByte('#')
		}
	}
	return b.String(), api.OK
}

// Text returns the canonical text of the declarations of a right program.
func Text(p api.Program) (string, api.Errno) {
	if fault := Check(p); fault.Code != api.OK {
		return "", fault.Code
	}
	w := &writer{p: p}
	for i := range p.Classes {
		w.class(i)
		if w.b.Len() > api.MaxText {
			return "", api.ErrLimit
		}
	}
	for i, m := range p.Methods {
		if m.Owner == -1 {
			w.method("", i)
		}
	}
	if w.b.Len() > api.MaxText {
		return "", api.ErrLimit
	}
	return w.b.String(), api.OK
}
