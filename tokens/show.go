package tokens

import (
	"strings"

	"newel/api"
)

const hexDigits = "0123456789abcdef"

// Show returns a text of tokens.
func Show(l []Token) (string, api.Errno) {
	var b strings.Builder
	for i := range l {
		if i > 0 && spaced(l[i-1], l[i]) {
			b.WriteByte(' ')
		}
		b.WriteString(canonical(l, i))
	}
	text := b.String()
	got, f := Raw(text)
	if f.Code != api.OK || !sameTokens(got, l) {
		return "", api.ErrForm
	}
	return text, api.OK
}

// spaced reports whether a blank stands between two tokens.
func spaced(u, t Token) bool {
	return u.Kind != Start && u.Kind != Part && t.Kind != Part
}

// sameTokens reports whether the lists have the same kinds and texts.
func sameTokens(a, b []Token) bool {
	if len(a) != len(b) {
		return false
	}
	for i := range a {
		if a[i].Kind != b[i].Kind || a[i].Text != b[i].Text {
			return false
		}
	}
	return true
}

// canonical returns the canonical form of the token i of a list.
func canonical(l []Token, i int) string {
	t := l[i]
	switch t.Kind {
	case Name, Key:
		if i > 0 && l[i-1].Kind == Part {
			return "$" + t.Text
		}
	case Long: // its text are the digits alone
		return t.Text + "L"
	case Char:
		return "'" + escaped(t.Text, "'", "{") + "'"
	case String:
		return `"` + escaped(t.Text, `"`, "") + `"`
	case Start:
		return t.Text + `"`
	case Part:
		return partForm(t.Text, i > 0 && (l[i-1].Kind == Name || l[i-1].Kind == Key))
	case End:
		return `"`
	}
	return t.Text
}

// partForm returns the canonical form of a Part. Behind a name, its first byte
// must not go on with the name.
func partForm(text string, behindName bool) string {
	if behindName && text != "" && inWord(text[0]) {
		return hexEscape(text[0]) + escaped(text[1:], `"$`, "")
	}
	return escaped(text, `"$`, "")
}

// escaped returns a text for the bytes of a literal: those of slashed have a
// backslash in front, those of coded are written as hexadecimal digits.
func escaped(text, slashed, coded string) string {
	var b strings.Builder
	for i := range len(text) {
		c := text[i]
		switch {
		case c == '\n':
			b.WriteString(`\n`)
		case c == '\t':
			b.WriteString(`\t`)
		case c == '\\' || strings.IndexByte(slashed, c) >= 0:
			b.WriteByte('\\')
			b.WriteByte(c)
		case c < ' ' || c > '~' || strings.IndexByte(coded, c) >= 0:
			b.WriteString(hexEscape(c))
		default:
			b.WriteByte(c)
		}
	}
	return b.String()
}

func hexEscape(b byte) string {
	return `\x` + hexDigits[b>>4:b>>4+1] + hexDigits[b&15:b&15+1]
}
