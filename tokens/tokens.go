// Package tokens is the lexer: see shared/doc/01-tokens.md.
package tokens

import "newel/api"

// Kinds of tokens.
const (
	Name = iota
	Key
	Op
	Mark
	Int
	Long
	Char
	String
	Start
	Part
	End
	Newline
	Indent
	Outdent
	Stop
	Kinds
)

// Token is a token.
type Token struct {
	Kind          int
	Text          string
	At, Line, Col int
}

// Raw returns the tokens of a text, without layout.
func Raw(text string) ([]Token, api.Fault) {
	r := &reader{text: text}
	return caught(r.read)
}

// Layout puts line ends and indentation into a list of tokens.
func Layout(l []Token) ([]Token, api.Fault) {
	y := &layouter{in: l}
	return caught(y.run)
}

// Scan returns the tokens of a text, with layout.
func Scan(text string) ([]Token, api.Fault) {
	l, f := Raw(text)
	if f.Code != api.OK {
		return nil, f
	}
	return Layout(l)
}

// caught returns the list that a function makes, or the fault by which it
// leaves.
func caught(work func() []Token) (list []Token, fault api.Fault) {
	defer func() {
		if p := recover(); p != nil {
			list, fault = nil, faultOf(p)
		}
	}()
	return work(), api.Fault{}
}

// fail leaves the function that is being executed with a fault.
func fail(at int, code api.Errno) {
	panic(api.Fault{At: at, Code: code})
}

// faultOf returns the fault that left by a panic. Nothing else does, but an
// exported function must not panic whatever happens.
func faultOf(p any) api.Fault {
	if f, ok := p.(api.Fault); ok {
		return f
	}
	return api.Fault{Code: api.ErrState}
}
