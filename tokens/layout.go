package tokens

import "newel/api"

// maxTokens is the number of tokens that a list may have.
const maxTokens = 20000

// layouter puts layout into a list of tokens.
type layouter struct {
	in, out []Token
	regions []region // the first one is never closed
	margin  int      // the Col of the first token of the line at hand
}

// region is an open bracket, or an indentation.
type region struct {
	mark  string // what opened the bracket; empty: an indentation
	width int    // of an indentation; of a bracket: the margin of its line
	index int    // of the token that opened it
}

func (g region) indentation() bool { return g.mark == "" }

// breaks reports whether line ends mean something in the region.
func (g region) breaks() bool { return g.mark != "(" && g.mark != "[" }

// checkList fails at the first token that no text could have there.
func checkList(l []Token) {
	for i, t := range l {
		if t.Kind < Name || t.Kind > End {
			fail(i, api.ErrKind)
		}
		if i > 0 && disordered(l[i-1], t) {
			fail(i, api.ErrOrder)
		}
	}
	if len(l) > maxTokens {
		fail(0, api.ErrLimit)
	}
}

// disordered reports whether t cannot stand behind u.
func disordered(u, t Token) bool {
	if t.Line < u.Line || t.At < u.At {
		return true
	}
	if t.Line == u.Line && t.Col < u.Col {
		return true
	}
	if u.Kind == Part { // it may be empty
		return false
	}
	return t.At == u.At || t.Line == u.Line && t.Col == u.Col
}

// run returns the list with its layout.
func (y *layouter) run() []Token {
	checkList(y.in)
	if len(y.in) == 0 {
		return []Token{{Kind: Stop}}
	}
	y.regions = []region{{width: y.in[0].Col}}
	y.margin = y.in[0].Col
	for i, t := range y.in {
		if i > 0 && t.Line > y.in[i-1].Line {
			y.margin = t.Col
			if y.innermost().breaks() {
				y.lineEnd(i)
			}
		}
		y.bracket(i)
		y.out = append(y.out, t)
	}
	y.stop()
	return y.out
}

func (y *layouter) innermost() region {
	return y.regions[len(y.regions)-1]
}

// push opens a region.
func (y *layouter) push(g region) {
	if len(y.regions) == api.MaxNest {
		fail(g.index, api.ErrDepth)
	}
	y.regions = append(y.regions, g)
}

// pop closes the innermost region.
func (y *layouter) pop() {
	y.regions = y.regions[:len(y.regions)-1]
}

// put adds a token of layout in front of t.
func (y *layouter) put(kind int, t Token) {
	y.out = append(y.out, Token{Kind: kind, At: t.At, Line: t.Line, Col: t.Col})
}

// outdent closes the innermost region, an indentation, in front of t.
func (y *layouter) outdent(t Token) {
	y.put(Outdent, t)
	y.pop()
}

// lineEnd puts the layout between the token i, the first one of a line, and
// the one in front of it.
func (y *layouter) lineEnd(i int) {
	u, t := y.in[i-1], y.in[i]
	if opener(u) && t.Col > y.innermost().width {
		y.put(Indent, t)
		y.push(region{width: t.Col, index: i})
		return
	}
	y.dedent(t)
	if !y.continuation(i) && !unfinished(u) {
		y.put(Newline, t)
	}
}

// dedent closes the indentations that are wider than the line of t.
func (y *layouter) dedent(t Token) {
	closed := false
	for len(y.regions) > 1 && y.innermost().indentation() && t.Col < y.innermost().width {
		y.outdent(t)
		closed = true
	}
	g := y.innermost()
	if g.indentation() && (t.Col < g.width || closed && t.Col > g.width) {
		fail(t.At, api.ErrOrder)
	}
}

// bracket opens or closes the region of the token i, if it is a bracket.
func (y *layouter) bracket(i int) {
	t := y.in[i]
	if t.Kind != Mark {
		return
	}
	if closer(t.Text) != "" {
		y.push(region{t.Text, y.margin, i})
	}
	if !closes(t.Text) {
		return
	}
	for len(y.regions) > 1 && y.innermost().indentation() {
		y.outdent(t)
	}
	if closer(y.innermost().mark) != t.Text {
		fail(i, api.ErrSyntax)
	}
	y.pop()
}

// stop ends the list.
func (y *layouter) stop() {
	last := y.in[len(y.in)-1]
	end := Token{Kind: Stop, At: last.At + 1, Line: last.Line + 1}
	for len(y.regions) > 1 {
		if g := y.innermost(); !g.indentation() {
			fail(g.index, api.ErrSyntax)
		}
		y.outdent(end)
	}
	y.out = append(y.out, end)
}

// opener reports whether a block may begin in the line behind a token.
func opener(t Token) bool {
	switch t.Kind {
	case Mark:
		switch t.Text {
		case ":", "=", "=>", "<-":
			return true
		}
	case Key:
		switch t.Text {
		case "then", "else", "do", "match", "try", "catch", "finally", "yield", "return", "throw":
			return true
		}
	}
	return false
}

// continuation reports whether the token i goes on with the line in front of
// it.
func (y *layouter) continuation(i int) bool {
	t := y.in[i]
	switch t.Kind {
	case Mark:
		switch t.Text {
		case ")", "]", "}", ",", ".", "=", "=>", "<-", ":", "<:", ">:", ";":
			return true
		}
	case Key:
		switch t.Text {
		case "catch", "do", "else", "extends", "finally", "match", "then", "with", "yield":
			return true
		}
	case Op:
		// The difference of two increasing numbers fits into a uint, whatever they are.
		return i+1 == len(y.in) || uint(y.in[i+1].At)-uint(t.At) > uint(len(t.Text))
	}
	return false
}

// unfinished reports whether a token wants something behind it.
func unfinished(t Token) bool {
	switch t.Kind {
	case Op:
		return true
	case Mark:
		switch t.Text {
		case "(", "[", "{", "'{", "${", ",", ".", ";", "=", "=>", "<-", ":", "<:", ">:":
			return true
		}
	case Key:
		switch t.Text {
		case "false", "null", "return", "super", "this", "true":
			return false
		}
		return Keyword(t.Text)
	}
	return false
}
