package types

import (
	"strconv"
	"strings"

	"newel/api"
	"newel/symbols"
)

// writer writes a type that Check accepts. What is too long it leaves out.
type writer struct {
	env  api.Env
	full map[int]string // the full names of the classes of the type
	b    strings.Builder
}

// Text returns the text of a type.
func Text(env api.Env, t api.Type) (string, api.Errno) {
	if code := Check(env, t); code != api.OK {
		return "", code
	}
	w := &writer{env: env, full: map[int]string{}}
	for p := range nodes(t) {
		if p.node.Kind != api.TClass && p.node.Kind != api.TThis {
			continue
		}
		name, code := symbols.FullName(env.P, p.node.Sym)
		if code != api.OK {
			return "", code
		}
		w.full[p.node.Sym] = name
	}
	w.write(t)
	if w.b.Len() > api.MaxText {
		return "", api.ErrLimit
	}
	return w.b.String(), api.OK
}

func (w *writer) put(words ...string) {
	for _, s := range words {
		if w.b.Len() <= api.MaxText {
			w.b.WriteString(s)
		}
	}
}

// list writes types with a text in front of the first one, texts between, and
// one behind.
func (w *writer) list(open string, l []api.Type, between, end string) {
	w.put(open)
	for i, t := range l {
		if i > 0 {
			w.put(between)
		}
		w.write(t)
	}
	w.put(end)
}

// around writes a type between two texts.
func (w *writer) around(open string, t api.Type, end string) {
	w.list(open, []api.Type{t}, "", end)
}

func (w *writer) write(t api.Type) {
	sym := strconv.Itoa(t.Sym)
	num := strconv.Itoa(t.Num)
	switch t.Kind {
	case api.TClass:
		w.list(w.full[t.Sym]+"[", t.Args, ", ", "]")
	case api.TParam:
		w.put(w.env.P.TParams[t.Sym].Name, "'", sym)
	case api.TMember:
		w.around("", t.Args[0], ".")
		w.put(w.env.P.Types[t.Sym].Name, "'", sym)
	case api.TThis:
		w.put("this(", w.full[t.Sym], ")")
	case api.TLocal:
		w.put(w.env.Locals[t.Sym].Name, "@", sym)
	case api.TField:
		w.around("", t.Args[0], ".")
		w.put(w.env.P.Fields[t.Sym].Name, "@", sym)
	case api.TBound:
		w.put("#", num, "^", sym)
	case api.TVar:
		w.put("?", num)
	case api.TLambda:
		w.around("{"+num+" => ", t.Args[0], "}")
	case api.TApply:
		w.write(t.Args[0])
		w.list("(", t.Args[1:], ", ", ")")
	case api.TArray:
		w.around("Array(", t.Args[0], ")")
	default:
		w.grouped(t)
	}
}

// grouped writes a type of a kind without fields, or one in parentheses.
func (w *writer) grouped(t api.Type) {
	switch t.Kind {
	case api.TAnd:
		w.list("(", t.Args, " & ", ")")
	case api.TOr:
		w.list("(", t.Args, " | ", ")")
	case api.TFun:
		last := len(t.Args) - 1
		w.list("((", t.Args[:last], ", ", ")")
		w.around(" => ", t.Args[last], ")")
	case api.TByName:
		w.around("(=> ", t.Args[0], ")")
	case api.TRepeat:
		w.around("(", t.Args[0], " *)")
	case api.TMatch:
		w.around("(", t.Args[0], " match "+strconv.Itoa(t.Num))
		for i := 1; i < len(t.Args); i += 2 {
			w.list(" {", t.Args[i:i+2], " => ", "}")
		}
		w.put(")")
	case api.TRefine:
		w.around("(", t.Args[0], " with "+t.Name)
		w.bounds(t.Args[1:])
	case api.TWild:
		w.put("(?")
		w.bounds(t.Args)
	default:
		w.put(words[t.Kind])
	}
}

// bounds writes a lower and an upper bound, the last ones in parentheses.
func (w *writer) bounds(l []api.Type) {
	w.list(" >: ", l, " <: ", ")")
}
