package syntax

import (
	"strconv"
	"strings"

	"newel/api"
)

const (
	maxForm   = 4 * api.MaxText // bytes of a text form
	hexDigits = "0123456789abcdef"
)

// Text returns the text form of a tree.
func Text(n Node) (string, api.Errno) {
	if f := Check(n); f.Code != api.OK {
		return "", f.Code
	}
	var w writer
	w.node(&n)
	if w.full {
		return "", api.ErrLimit
	}
	return w.text.String(), api.OK
}

// writer writes a text form, until it is too long.
type writer struct {
	text strings.Builder
	full bool
}

// put adds parts to the text.
func (w *writer) put(parts ...string) {
	for _, p := range parts {
		if w.full = w.full || w.text.Len()+len(p) > maxForm; w.full {
			return
		}
		w.text.WriteString(p)
	}
}

// node writes the text form of a node.
func (w *writer) node(n *Node) {
	w.put("(", Name(n.Kind))
	if n.Text != "" {
		w.put(` "`, escaped(n.Text), `"`)
	}
	if n.Num != 0 {
		w.put(" ", strconv.FormatInt(n.Num, 10))
	}
	for i := range n.Kids {
		w.put(" ")
		if w.full {
			return
		}
		w.node(&n.Kids[i])
	}
	w.put(")")
}

// escaped returns a Text as it stands between double quotes.
func escaped(s string) string {
	var b strings.Builder
	for i := range len(s) {
		if isPlain(s[i]) {
			b.WriteByte(s[i])
		} else {
			b.WriteString(escape(s[i]))
		}
	}
	return b.String()
}

// isPlain reports whether a byte stands for itself between double quotes.
func isPlain(b byte) bool {
	return ' ' <= b && b <= '~' && b != '"' && b != '\\'
}

// escape returns the escape of a byte that is not plain.
func escape(b byte) string {
	switch b {
	case '"':
		return `\"`
	case '\\':
		return `\\`
	case '\n':
		return `\n`
	case '\t':
		return `\t`
	}
	return `\x` + hexDigits[b>>4:b>>4+1] + hexDigits[b&15:b&15+1]
}
