package syntax

import (
	"strconv"
	"strings"

	"newel/api"
)

// Read returns the tree of a text form.
func Read(s string) (Node, api.Fault) {
	if len(s) > maxForm {
		return Node{}, api.Fault{Code: api.ErrLimit}
	}
	r := reader{text: s, deep: -1}
	n, ok := r.node(1)
	if !ok || r.at < len(s) {
		return Node{}, api.Fault{At: r.at, Code: api.ErrSyntax}
	}
	if r.deep >= 0 {
		return Node{}, api.Fault{At: r.deep, Code: api.ErrDepth}
	}
	if f := Check(n); f.Code != api.OK {
		return Node{}, api.Fault{At: offset(&n, f.At), Code: f.Code}
	}
	return n, api.Fault{}
}

// offset returns At of the node with an index in preorder.
func offset(n *Node, index int) int {
	for x := range preorder(n) {
		if index == 0 {
			return x.At
		}
		index--
	}
	return 0
}

// reader reads a text form. Its methods report whether they found what they
// look for; if they did not, at is the place of the fault.
type reader struct {
	text string
	at   int // the next byte
	deep int // the first node that is nested too deeply, -1 if there is none
}

// next returns the next byte, 0 at the end; a text form has no byte 0.
func (r *reader) next() byte {
	if r.at < len(r.text) {
		return r.text[r.at]
	}
	return 0
}

// passes passes the next byte, if it is the one that is asked for.
func (r *reader) passes(b byte) bool {
	found := r.next() == b
	if found {
		r.at++
	}
	return found
}

// node reads a node. What is nested too deeply is read as well: a fault of the
// syntax behind it counts first.
func (r *reader) node(level int) (Node, bool) {
	n := Node{At: r.at}
	if !r.passes('(') {
		return n, false
	}
	if level > api.MaxNest && r.deep < 0 {
		r.deep = n.At
	}
	ok := r.kind(&n) && r.parts(&n, level)
	return n, ok
}

// kind reads the name of a kind. At the end of the text the name may be the
// beginning of one, of which the rest is missing.
func (r *reader) kind(n *Node) bool {
	end := r.at
	for end < len(r.text) && isLetter(r.text[end]) {
		end++
	}
	word := r.text[r.at:end]
	n.Kind = kindNamed(word)
	if n.Kind < 0 && (end < len(r.text) || !beginsKind(word)) {
		return false
	}
	r.at = end
	return n.Kind >= 0
}

// parts reads what stands behind the name of a kind: a Text, a Num and kids, in
// this order, and the end.
func (r *reader) parts(n *Node, level int) bool {
	mayText, mayNum := true, true
	for !r.passes(')') {
		if !r.passes(' ') {
			return false
		}
		b, ok := r.next(), false
		switch {
		case b == '"' && mayText:
			n.Text, ok = r.quoted()
		case (b == '-' || isDigit(b)) && mayNum:
			n.Num, ok = r.num()
			mayNum = false
		case b == '(':
			var kid Node
			kid, ok = r.node(level + 1)
			n.Kids = append(n.Kids, kid)
			mayNum = false
		}
		mayText = false
		if !ok {
			return false
		}
	}
	return true
}

// num reads a Num. What is none is a fault at its first byte; a sign at the end
// of the text is a Num of which the digits are missing.
func (r *reader) num() (int64, bool) {
	end := r.at + 1
	for end < len(r.text) && isDigit(r.text[end]) {
		end++
	}
	word := r.text[r.at:end]
	if word == "-" && end == len(r.text) {
		r.at = end
		return 0, false
	}
	num, err := strconv.ParseInt(word, 10, 64)
	if err != nil || num == 0 || strconv.FormatInt(num, 10) != word {
		return 0, false
	}
	r.at = end
	return num, true
}

// quoted reads a Text. What is none is a fault at the double quote in front; at
// the end of the text something is missing.
func (r *reader) quoted() (string, bool) {
	var text []byte
	at := r.at + 1
	for at < len(r.text) && r.text[at] != '"' {
		b, size := character(r.text[at:])
		if size == 0 {
			return "", false
		}
		text = append(text, b)
		at += size
	}
	if at >= len(r.text) {
		r.at = len(r.text)
		return "", false
	}
	if len(text) == 0 {
		return "", false
	}
	r.at = at + 1
	return string(text), true
}

// character returns the byte for which the beginning of a text stands between
// double quotes, and the length of that beginning: 0 if it is none, more than
// the text has if something is missing.
func character(s string) (byte, int) {
	if s[0] != '\\' {
		if isPlain(s[0]) {
			return s[0], 1
		}
		return 0, 0
	}
	if len(s) == 1 {
		return 0, 2
	}
	switch s[1] {
	case 'n':
		return '\n', 2
	case 't':
		return '\t', 2
	case '"', '\\':
		return s[1], 2
	case 'x':
		return hexadecimal(s)
	}
	return 0, 0
}

// hexadecimal does the same with an escape that has two digits. It is one only
// if no other text stands for the byte.
func hexadecimal(s string) (byte, int) {
	value := 0
	for i := 2; i < 4; i++ {
		if i == len(s) {
			return 0, 4
		}
		digit := strings.IndexByte(hexDigits, s[i])
		if digit < 0 || i == 2 && 2 <= digit && digit <= 6 { // no byte from 32 to 111 needs digits
			return 0, 0
		}
		value = value<<4 | digit
	}
	b := byte(value)
	if isPlain(b) || escape(b) != s[:4] {
		return 0, 0
	}
	return b, 4
}
