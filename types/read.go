package types

import (
	"strconv"
	"strings"

	"newel/api"
	"newel/symbols"
)

// reader reads a text from the left to the right. When it has failed, it stays
// where it is, and what it returns does not count.
type reader struct {
	env     api.Env
	s       string
	at      int
	nest    int
	failed  bool
	classes map[string]int // the first class with each full name
}

// Read returns the type with a text.
func Read(env api.Env, s string) (api.Type, api.Fault) {
	if len(s) > api.MaxText {
		return api.Type{}, api.Fault{Code: api.ErrLimit}
	}
	r := &reader{env: env, s: s}
	t := r.read()
	if r.failed || r.at < len(s) || Check(env, t) != api.OK {
		return api.Type{}, api.Fault{Code: api.ErrSyntax}
	}
	return t, api.Fault{}
}

// take reports whether a text stands here, and goes behind it.
func (r *reader) take(s string) bool {
	if r.failed || !strings.HasPrefix(r.s[r.at:], s) {
		return false
	}
	r.at += len(s)
	return true
}

// want fails where a text does not stand here.
func (r *reader) want(s string) {
	if !r.take(s) {
		r.failed = true
	}
}

// ahead returns the byte that stands some bytes further on, 0 behind the end.
func (r *reader) ahead(by int) byte {
	if r.at+by >= len(r.s) {
		return 0
	}
	return r.s[r.at+by]
}

// number reads decimal digits, as they are written.
func (r *reader) number() int {
	end := r.at
	for end < len(r.s) && isDigit(r.s[end]) {
		end++
	}
	n, err := strconv.Atoi(r.s[r.at:end])
	if err != nil || strconv.Itoa(n) != r.s[r.at:end] {
		r.failed = true
		return 0
	}
	r.at = end
	return n
}

func isDigit(b byte) bool { return b >= '0' && b <= '9' }

// name reads the longest name that stands here; it is empty if there is none,
// and nothing has an empty name.
func (r *reader) name() string {
	end := r.at
	for end < len(r.s) && symbols.IsName(r.s[r.at:end+1]) {
		end++
	}
	name := r.s[r.at:end]
	r.at = end
	return name
}

// read reads a type.
func (r *reader) read() api.Type {
	r.nest++
	defer func() { r.nest-- }()
	if r.nest > api.MaxNest {
		r.failed = true
	}
	if r.failed {
		return api.Type{}
	}
	t := r.simple()
	if isFunctionKind(t.Kind) && r.take("(") {
		return api.Type{Kind: api.TApply, Args: append([]api.Type{t}, r.list(r.read, ", ", ")")...)}
	}
	return t
}

// isFunctionKind reports whether types of a kind may be type functions.
func isFunctionKind(kind int) bool {
	return kind == api.TLambda || kind == api.TParam || kind == api.TMember
}

// list reads any number of types.
func (r *reader) list(item func() api.Type, between, end string) []api.Type {
	if r.take(end) {
		return nil
	}
	return r.rest(item(), item, between, end)
}

// rest reads the types behind the first one of a list.
func (r *reader) rest(first api.Type, item func() api.Type, between, end string) []api.Type {
	l := []api.Type{first}
	for !r.failed && !r.take(end) {
		r.want(between)
		l = append(l, item())
	}
	return l
}

// simple reads a type that is not applied.
func (r *reader) simple() api.Type {
	switch {
	case r.ahead(0) == '(':
		return r.group()
	case r.ahead(0) == '?' && isDigit(r.ahead(1)):
		r.want("?")
		return api.Type{Kind: api.TVar, Num: r.number()}
	case r.take("{"):
		t := api.Type{Kind: api.TLambda, Num: r.number()}
		r.want(" => ")
		t.Args = []api.Type{r.read()}
		r.want("}")
		return t
	case r.take("#"):
		t := api.Type{Kind: api.TBound, Num: r.number()}
		r.want("^")
		t.Sym = r.number()
		return t
	}
	return r.named()
}

// named reads a type that begins with a name.
func (r *reader) named() api.Type {
	start := r.at
	name := r.name()
	switch {
	case r.take("'"):
		return api.Type{Kind: api.TParam, Sym: declared(r, r.env.P.TParams, name, paramName)}
	case r.take("@"):
		return r.selected(api.Type{Kind: api.TLocal, Sym: declared(r, r.env.Locals, name, localName)})
	case name == "this" && r.take("("):
		t := api.Type{Kind: api.TThis, Sym: r.class()}
		r.want(")")
		return r.selected(t)
	case name == "Array" && r.take("("):
		t := api.Type{Kind: api.TArray, Args: []api.Type{r.read()}}
		r.want(")")
		return t
	case strings.IndexByte("[.#", r.ahead(0)) >= 0:
		r.at = start
		t := api.Type{Kind: api.TClass, Sym: r.class()}
		r.want("[")
		t.Args = r.list(r.read, ", ", "]")
		return t
	}
	return api.Type{Kind: r.basic(name)}
}

// basic returns the kind whose text is a word.
func (r *reader) basic(word string) int {
	for kind := api.TAny; kind <= api.TString; kind++ {
		if words[kind] == word {
			return kind
		}
	}
	r.failed = true
	return api.TNone
}

func paramName(x api.TypeParam) string   { return x.Name }
func memberName(x api.TypeMember) string { return x.Name }
func localName(x api.Local) string       { return x.Name }
func fieldName(x api.Field) string       { return x.Name }

// declared reads the index of an item that has a name.
func declared[T any](r *reader, items []T, name string, nameOf func(T) string) int {
	i := r.number()
	if !has(items, i) || nameOf(items[i]) != name {
		r.failed = true
	}
	return i
}

// selected reads what is selected from a singleton type.
func (r *reader) selected(t api.Type) api.Type {
	for r.take(".") {
		name := r.name()
		args := []api.Type{t}
		if r.take("'") {
			return api.Type{Kind: api.TMember, Sym: declared(r, r.env.P.Types, name, memberName), Args: args}
		}
		r.want("@")
		t = api.Type{Kind: api.TField, Sym: declared(r, r.env.P.Fields, name, fieldName), Args: args}
	}
	return t
}

// class reads the full name of a class.
func (r *reader) class() int {
	start := r.at
	r.name()
	for r.take("#"); r.take("."); r.take("#") {
		r.name()
	}
	if r.classes == nil {
		r.classes = fullNames(r.env.P)
	}
	k, ok := r.classes[r.s[start:r.at]]
	if !ok {
		r.failed = true
	}
	return k
}

// fullNames returns the first class with each full name.
func fullNames(p api.Program) map[string]int {
	classes := map[string]int{}
	for i := range p.Classes {
		name, code := symbols.FullName(p, i)
		if _, ok := classes[name]; !ok && code == api.OK {
			classes[name] = i
		}
	}
	return classes
}
