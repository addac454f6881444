package types

import (
	"strings"

	"newel/api"
)

// group reads a type in parentheses.
func (r *reader) group() api.Type {
	function := r.isFunction()
	r.want("(")
	switch {
	case r.take("? >: "):
		return api.Type{Kind: api.TWild, Args: r.bounds()}
	case r.take("=> "):
		t := api.Type{Kind: api.TByName, Args: []api.Type{r.read()}}
		r.want(")")
		return t
	case function:
		r.want("(")
		t := api.Type{Kind: api.TFun, Args: r.list(r.read, ", ", ")")}
		r.want(" => ")
		t.Args = append(t.Args, r.read())
		r.want(")")
		return t
	}
	first := r.read()
	for _, g := range r.groups() {
		if r.take(g.word) {
			return g.rest(first)
		}
	}
	r.failed = true
	return api.Type{}
}

// isFunction reports whether the parentheses here begin with the parameters of
// a function: what else stands first in parentheses has no arrow behind it.
func (r *reader) isFunction() bool {
	if r.ahead(1) != '(' {
		return false
	}
	open := 0
	for i := r.at + 1; i < len(r.s); i++ {
		switch r.s[i] {
		case '(':
			open++
		case ')':
			open--
		}
		if open == 0 {
			return strings.HasPrefix(r.s[i+1:], " => ")
		}
	}
	return false
}

// group is what a text in parentheses is by the word behind its first type.
type group struct {
	word string
	rest func(first api.Type) api.Type
}

func (r *reader) groups() []group {
	return []group{
		{" & ", r.and},
		{" | ", r.or},
		{" *)", r.repeat},
		{" match ", r.match},
		{" with ", r.refine},
	}
}

func (r *reader) and(first api.Type) api.Type {
	second := r.read()
	return api.Type{Kind: api.TAnd, Args: append([]api.Type{first}, r.rest(second, r.read, " & ", ")")...)}
}

func (r *reader) or(first api.Type) api.Type {
	second := r.read()
	return api.Type{Kind: api.TOr, Args: append([]api.Type{first}, r.rest(second, r.read, " | ", ")")...)}
}

func (r *reader) repeat(first api.Type) api.Type {
	return api.Type{Kind: api.TRepeat, Args: []api.Type{first}}
}

func (r *reader) match(first api.Type) api.Type {
	t := api.Type{Kind: api.TMatch, Num: r.number(), Args: []api.Type{first}}
	for r.take(" {") {
		pattern := r.read()
		r.want(" => ")
		body := r.read()
		r.want("}")
		t.Args = append(t.Args, pattern, body)
	}
	r.want(")")
	return t
}

func (r *reader) refine(first api.Type) api.Type {
	t := api.Type{Kind: api.TRefine, Name: r.name()}
	r.want(" >: ")
	t.Args = append([]api.Type{first}, r.bounds()...)
	return t
}

// bounds reads a lower and an upper bound, and the parenthesis behind them.
func (r *reader) bounds() []api.Type {
	lower := r.read()
	r.want(" <: ")
	upper := r.read()
	r.want(")")
	return []api.Type{lower, upper}
}
