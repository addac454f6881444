package tokens

import "newel/api"

const (
	greatestInt  = "2147483647"
	greatestLong = "9223372036854775807"
)

// number reads an Int or a Long.
func (r *reader) number() {
	end := r.at
	for end < len(r.text) && class(r.text[end]) == digit {
		end++
	}
	digits := r.text[r.at:end]
	kind, greatest := Int, greatestInt
	if end < len(r.text) && r.text[end] == 'L' {
		kind, greatest = Long, greatestLong
		end++
	}
	if len(digits) > 1 && digits[0] == '0' || r.wordEnd(end) > end {
		fail(r.start, api.ErrSyntax)
	}
	if exceeds(digits, greatest) {
		fail(r.start, api.ErrRange)
	}
	r.put(kind, digits, end)
}

// exceeds compares numbers in digits without needless zeros.
func exceeds(a, b string) bool {
	if len(a) != len(b) {
		return len(a) > len(b)
	}
	return a > b
}

// char reads a Char, or the mark that opens a quote.
func (r *reader) char() {
	if r.follows("'{") {
		r.putMark("'{")
		return
	}
	r.at++
	text := r.characters('\'', '\'')
	if len(text) != 1 {
		fail(r.start, api.ErrSyntax)
	}
	r.put(Char, text, r.at+1)
}

// plain reads a String.
func (r *reader) plain() {
	r.at++
	text := r.characters('"', '"')
	r.put(String, text, r.at+1)
}

// interpolated reads an interpolated string behind its first quote.
func (r *reader) interpolated() {
	for r.part() {
		r.expression()
	}
	r.start = r.at
	r.put(End, "", r.at+1)
}

// part reads a Part, and reports whether an expression stands behind it.
func (r *reader) part() bool {
	r.start = r.at
	text := r.characters('"', '$')
	r.put(Part, text, r.at)
	return r.text[r.at] == '$'
}

// expression reads an expression of an interpolated string, from its $ on.
func (r *reader) expression() {
	r.start = r.at
	if r.follows("${") {
		r.spliced()
		return
	}
	end := r.wordEnd(r.at + 1)
	name := r.text[r.at+1 : end]
	if name == "" || name == "_" || class(name[0]) != letter {
		fail(r.start, api.ErrSyntax)
	}
	r.start++
	if Keyword(name) {
		r.putNamed(Key, end)
	} else {
		r.putNamed(Name, end)
	}
}

// spliced reads the tokens from a ${ up to the } that matches.
func (r *reader) spliced() {
	outer := len(r.open)
	r.putMark("${")
	for len(r.open) > outer {
		if !r.skip() {
			r.unclosed()
		}
		r.token()
	}
}

// splice reads the mark ${ outside of interpolated strings.
func (r *reader) splice() {
	if !r.follows("${") {
		r.stray()
	}
	r.putMark("${")
}

// characters reads up to one of the two bytes that end the literal, and
// returns what it stands for.
func (r *reader) characters(end, other byte) string {
	var text []byte
	for r.at < len(r.text) && r.text[r.at] >= ' ' {
		if b := r.text[r.at]; b == end || b == other {
			return string(text)
		}
		b := r.character()
		text = append(text, b)
	}
	fail(r.start, api.ErrSyntax)
	return ""
}

// character reads a byte or an escape.
func (r *reader) character() byte {
	b := r.text[r.at]
	r.at++
	if b != '\\' {
		return b
	}
	b, size := unescape(r.text[r.at:])
	if size == 0 {
		fail(r.start, api.ErrSyntax)
	}
	r.at += size
	return b
}

// unescape returns the byte for which an escape stands, whose text begins
// behind the backslash, and the number of its bytes, 0 if it is none.
func unescape(s string) (b byte, size int) {
	if s == "" {
		return 0, 0
	}
	switch s[0] {
	case 'n':
		return '\n', 1
	case 't':
		return '\t', 1
	case '\\', '\'', '"', '$':
		return s[0], 1
	case 'x':
		if len(s) < 3 {
			return 0, 0
		}
		high, low := hexValue(s[1]), hexValue(s[2])
		if high >= 0 && low >= 0 {
			return byte(high<<4 | low), 3
		}
	}
	return 0, 0
}

// hexValue returns the value of a hexadecimal digit, -1 of another byte.
func hexValue(b byte) int {
	switch {
	case '0' <= b && b <= '9':
		return int(b - '0')
	case 'a' <= b && b <= 'f':
		return int(b-'a') + 10
	}
	return -1
}
