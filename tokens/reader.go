package tokens

import (
	"strings"

	"newel/api"
)

// reader divides a text into tokens.
type reader struct {
	text      string
	at        int // the next byte
	start     int // the first byte of the token at hand
	line      int
	lineStart int // the first byte of the line
	open      []bracket
	list      []Token
}

// bracket is an open bracket.
type bracket struct {
	mark string
	at   int
}

// checkBytes fails if the text is too long, or at the first byte that no text
// has.
func checkBytes(text string) {
	if len(text) > api.MaxText {
		fail(0, api.ErrLimit)
	}
	for i := range len(text) {
		if b := text[i]; b != '\t' && b != '\n' && (b < 32 || b > 126) {
			fail(i, api.ErrSyntax)
		}
	}
}

// read returns the tokens of the text.
func (r *reader) read() []Token {
	checkBytes(r.text)
	for r.skip() {
		r.token()
	}
	if len(r.open) > 0 {
		r.unclosed()
	}
	return r.list
}

// unclosed fails at the innermost open bracket.
func (r *reader) unclosed() {
	fail(r.open[len(r.open)-1].at, api.ErrSyntax)
}

// token reads the token that begins at the next byte; of an interpolated
// string, all of its tokens.
func (r *reader) token() {
	r.start = r.at
	read := r.scanner()
	read()
}

// scanner returns the method that reads what begins at the next byte.
func (r *reader) scanner() func() {
	switch class(r.text[r.at]) {
	case letter:
		return r.word
	case digit:
		return r.number
	case sign:
		return r.operator
	case single:
		return r.single
	case apostrophe:
		return r.char
	case quote:
		return r.plain
	case dollar:
		return r.splice
	}
	return r.stray
}

// put adds the token at hand, which ends in front of the byte end.
func (r *reader) put(kind int, text string, end int) {
	r.list = append(r.list, Token{Kind: kind, Text: text, At: r.start, Line: r.line, Col: r.start - r.lineStart})
	r.at = end
}

// putNamed adds the token at hand, whose text has a limit.
func (r *reader) putNamed(kind, end int) {
	text := r.text[r.start:end]
	if len(text) > api.MaxName {
		fail(r.start, api.ErrLimit)
	}
	r.put(kind, text, end)
}

// putMark adds a mark, which may open or close a bracket.
func (r *reader) putMark(mark string) {
	if closer(mark) != "" {
		if len(r.open) == api.MaxNest {
			fail(r.start, api.ErrDepth)
		}
		r.open = append(r.open, bracket{mark, r.start})
	}
	if closes(mark) {
		last := len(r.open) - 1
		if last < 0 || closer(r.open[last].mark) != mark {
			fail(r.start, api.ErrSyntax)
		}
		r.open = r.open[:last]
	}
	r.put(Mark, mark, r.start+len(mark))
}

// stray fails: no token begins here.
func (r *reader) stray() {
	fail(r.start, api.ErrSyntax)
}

// single reads a mark of one byte.
func (r *reader) single() {
	r.putMark(r.text[r.start : r.start+1])
}

// follows reports whether a text stands at the next byte.
func (r *reader) follows(s string) bool {
	return strings.HasPrefix(r.text[r.at:], s)
}

// wordEnd returns the end of the letters and digits that begin at a byte.
func (r *reader) wordEnd(from int) int {
	for from < len(r.text) && inWord(r.text[from]) {
		from++
	}
	return from
}

// word reads a name, a keyword, the mark _ or an interpolated string.
func (r *reader) word() {
	end := r.wordEnd(r.at)
	text := r.text[r.at:end]
	switch {
	case text == "_":
		r.putMark(text)
	case Keyword(text):
		r.putNamed(Key, end)
	case strings.HasPrefix(r.text[end:], `"`):
		r.putNamed(Start, end)
		r.at++
		r.interpolated()
	default:
		r.putNamed(Name, end)
	}
}

// operator reads an operator, or a mark that consists of signs.
func (r *reader) operator() {
	end := r.at
	for end < len(r.text) && class(r.text[end]) == sign && !beginsComment(r.text[end:]) {
		end++
	}
	if run := r.text[r.at:end]; signMark(run) {
		r.putMark(run)
	} else {
		r.putNamed(Op, end)
	}
}

func beginsComment(s string) bool {
	return strings.HasPrefix(s, "//") || strings.HasPrefix(s, "/*")
}

// skip passes blanks and comments, and reports whether a token follows.
func (r *reader) skip() bool {
	for r.at < len(r.text) {
		switch {
		case r.follows("\n"):
			r.lineFeed()
		case class(r.text[r.at]) == blank:
			r.at++
		case r.follows("//"):
			r.lineComment()
		case r.follows("/*"):
			r.comment()
		default:
			return true
		}
	}
	return false
}

// lineFeed passes a line feed.
func (r *reader) lineFeed() {
	r.at++
	r.line++
	r.lineStart = r.at
}

// lineComment passes a comment that ends with its line.
func (r *reader) lineComment() {
	for r.at < len(r.text) && r.text[r.at] != '\n' {
		r.at++
	}
}

// comment passes a comment in which other ones may stand.
func (r *reader) comment() {
	start, depth := r.at, 0
	for r.at < len(r.text) {
		switch {
		case r.follows("/*"):
			depth++
			r.at += 2
		case r.follows("*/"):
			depth--
			r.at += 2
		case r.follows("\n"):
			r.lineFeed()
		default:
			r.at++
		}
		if depth == 0 {
			return
		}
	}
	fail(start, api.ErrSyntax)
}
