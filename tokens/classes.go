package tokens

// Classes of bytes, by the token that begins with them. A byte of the class
// other begins none.
const (
	other = iota
	blank
	letter // a letter or _
	digit
	sign   // what operators consist of
	single // a mark by itself
	apostrophe
	quote
	dollar
)

var classes = [128]uint8{
	'\t': blank, '\n': blank, ' ': blank,
	'0': digit, '1': digit, '2': digit, '3': digit, '4': digit,
	'5': digit, '6': digit, '7': digit, '8': digit, '9': digit,
	'A': letter, 'B': letter, 'C': letter, 'D': letter, 'E': letter, 'F': letter, 'G': letter,
	'H': letter, 'I': letter, 'J': letter, 'K': letter, 'L': letter, 'M': letter, 'N': letter,
	'O': letter, 'P': letter, 'Q': letter, 'R': letter, 'S': letter, 'T': letter, 'U': letter,
	'V': letter, 'W': letter, 'X': letter, 'Y': letter, 'Z': letter, '_': letter,
	'a': letter, 'b': letter, 'c': letter, 'd': letter, 'e': letter, 'f': letter, 'g': letter,
	'h': letter, 'i': letter, 'j': letter, 'k': letter, 'l': letter, 'm': letter, 'n': letter,
	'o': letter, 'p': letter, 'q': letter, 'r': letter, 's': letter, 't': letter, 'u': letter,
	'v': letter, 'w': letter, 'x': letter, 'y': letter, 'z': letter,
	'+': sign, '-': sign, '*': sign, '/': sign, '%': sign, '<': sign, '>': sign, '=': sign,
	'!': sign, '&': sign, '|': sign, '^': sign, '~': sign, ':': sign, '?': sign,
	'(': single, ')': single, '[': single, ']': single, '{': single, '}': single,
	',': single, '.': single, ';': single, '@': single,
	'\'': apostrophe, '"': quote, '$': dollar,
}

// class returns the class of a byte.
func class(b byte) int {
	if int(b) < len(classes) {
		return int(classes[b])
	}
	return other
}

// inWord reports whether a byte stands in names: a letter, a digit or _.
func inWord(b byte) bool {
	c := class(b)
	return c == letter || c == digit
}

// signMark reports whether a run of signs is a mark and no operator.
func signMark(s string) bool {
	switch s {
	case "=", "=>", "<-", ":", "<:", ">:":
		return true
	}
	return false
}

// closer returns the mark that closes a bracket; it is empty if the mark opens
// none.
func closer(mark string) string {
	switch mark {
	case "(":
		return ")"
	case "[":
		return "]"
	case "{", "'{", "${":
		return "}"
	}
	return ""
}

// closes reports whether a mark closes a bracket.
func closes(mark string) bool {
	switch mark {
	case ")", "]", "}":
		return true
	}
	return false
}
