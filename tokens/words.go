package tokens

import "strings"

var keywords = [...]string{
	"abstract", "case", "catch", "class", "def", "do", "else", "enum", "extends", "extension",
	"false", "final", "finally", "for", "given", "if", "import", "inline", "lazy", "match",
	"new", "null", "object", "override", "private", "return", "sealed", "super", "then", "this",
	"throw", "trait", "true", "try", "type", "using", "val", "var", "volatile", "while",
	"with", "yield",
}

// firsts has the first bytes of operators; the precedence is the index plus 2.
var firsts = [...]string{"|", "^", "&", "=!", "<>", ":", "+-", "*/%", "~?"}

// Keyword reports whether a text is a keyword.
func Keyword(s string) bool {
	for _, k := range keywords {
		if k == s {
			return true
		}
	}
	return false
}

// Precedence returns the precedence of an operator or name.
func Precedence(op string) int {
	switch {
	case op == "":
		return -1
	case signs(op) && Assigns(op): // Assigns asks of any text, "a=" too, but only an operator assigns
		return 0
	case class(op[0]) == letter:
		return 1
	}
	for i, bytes := range firsts {
		if strings.IndexByte(bytes, op[0]) >= 0 {
			return i + 2
		}
	}
	return -1
}

// signs reports whether a text consists of the bytes of operators.
func signs(s string) bool {
	for i := range len(s) {
		if class(s[i]) != sign {
			return false
		}
	}
	return true
}

// Right reports whether an operator associates to the right.
func Right(op string) bool {
	return strings.HasSuffix(op, ":")
}

// Assigns reports whether an operator is an assignment operator.
func Assigns(op string) bool {
	switch op {
	case "<=", ">=", "!=":
		return false
	}
	return len(op) >= 2 && op[0] != '=' && op[len(op)-1] == '='
}
