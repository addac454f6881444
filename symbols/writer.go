package symbols

import (
	"strconv"
	"strings"

	"newel/api"
)

// writer makes the text of a program.
type writer struct {
	p api.Program
	b strings.Builder
}

// line writes words with blanks between.
func (w *writer) line(words ...string) {
	w.b.WriteString(strings.Join(words, " "))
	w.b.WriteByte('\n')
}

// class writes a class with its members.
func (w *writer) class(index int) {
	k := w.p.Classes[index]
	name, _ := FullName(w.p, index)
	words := []string{kindWord(k.Kind), name, strconv.Itoa(k.Flags)}
	for _, i := range k.TParams {
		x := w.p.TParams[i]
		words = append(words, sign(x.Variance)+x.Name)
	}
	w.line(words...)
	for _, i := range k.Fields {
		f := w.p.Fields[i]
		w.line("  field", f.Name, strconv.Itoa(f.Flags))
	}
	for _, i := range k.Methods {
		w.method("  ", i)
	}
	for _, i := range k.Types {
		w.line("  type", w.p.Types[i].Name)
	}
}

// method writes a method behind a margin.
func (w *writer) method(margin string, index int) {
	m := w.p.Methods[index]
	w.line(margin+"method", m.Name, strconv.Itoa(m.Flags), strconv.Itoa(m.Params))
}

// kindWord returns the word for a kind of classes.
func kindWord(kind int) string {
	switch kind {
	case api.IsTrait:
		return "trait"
	case api.IsObject:
		return "object"
	}
	return "class"
}

// sign returns the sign of a variance.
func sign(variance int) string {
	switch variance {
	case api.Covariant:
		return "+"
	case api.Contravariant:
		return "-"
	}
	return ""
}
