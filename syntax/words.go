package syntax

import (
	"strings"

	"newel/api"
	"newel/tokens"
)

const (
	operatorBytes = "+-*/%<>=!&|^~:?"
	prefixes      = "-!~+"
	maxPath       = 8 // names of a path
)

// What the Text of a node has to be.
const (
	noText = iota
	nameText
	wordText // a name of letters
	wordOrNoText
	wordOrWild
	pathText
	importText // the last name may be a star
	prefixText
	assignText
	anyText
)

// textRule returns what the Text of nodes of a kind has to be.
func textRule(kind int) int {
	switch kind {
	case SClass, SDef, XName, XSelect, XInfix:
		return nameText
	case SVal, SType, SEnumCase, STParam, SParam, TName, TSelect, XNamed, XInterp, PBind:
		return wordText
	case SGiven, XSuper:
		return wordOrNoText
	case SLambdaParam, PTyped:
		return wordOrWild
	case PStable, PApply:
		return pathText
	case SImport:
		return importText
	case XPrefix:
		return prefixText
	case XAssign:
		return assignText
	case XString:
		return anyText
	}
	return noText
}

// asksName reports whether a rule asks for a name or a path.
func asksName(rule int) bool {
	return nameText <= rule && rule <= importText
}

// keeps reports whether a Text is what a rule asks for.
func keeps(rule int, s string) bool {
	switch rule {
	case nameText:
		return isWord(s) || isOperator(s)
	case wordText:
		return isWord(s)
	case wordOrNoText:
		return s == "" || isWord(s)
	case wordOrWild:
		return s == "_" || isWord(s)
	case pathText:
		return isPath(s, false)
	case importText:
		return isPath(s, true)
	case prefixText:
		return len(s) == 1 && strings.Contains(prefixes, s)
	case assignText: // Assigns looks at the ends of any text, so this asks for an operator, too
		return s == "=" || isOperator(s) && tokens.Assigns(s)
	case anyText:
		return true
	}
	return s == ""
}

// isWord reports whether a text is a name of letters.
func isWord(s string) bool {
	if s == "" || s == "_" || len(s) > api.MaxName || isDigit(s[0]) {
		return false
	}
	for i := range len(s) {
		if b := s[i]; !isLetter(b) && !isDigit(b) && b != '_' {
			return false
		}
	}
	return true
}

// isOperator reports whether a text is a name of operator bytes.
func isOperator(s string) bool {
	return s != "" && len(s) <= api.MaxName && strings.Trim(s, operatorBytes) == ""
}

// isPath reports whether a text is a path; star permits * as the last name.
func isPath(s string, star bool) bool {
	parts := strings.SplitN(s, ".", maxPath+1)
	for i, p := range parts {
		if !isWord(p) && !(star && p == "*" && i == len(parts)-1) {
			return false
		}
	}
	return len(parts) <= maxPath
}

func isLetter(b byte) bool { return 'a' <= b && b <= 'z' || 'A' <= b && b <= 'Z' }

func isDigit(b byte) bool { return '0' <= b && b <= '9' }
