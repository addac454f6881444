package syntax

import "strings"

var names = [...]string{
	"SNone", "SUnit", "SImport", "SClass", "SDef", "SVal", "SType", "SGiven", "SExtension",
	"SEnumCase", "SMods", "SNames", "STParam", "SLists", "SParams", "SParam", "SParents",
	"SParent", "SBody",
	"TName", "TSelect", "TApply", "TFunction", "TAnd", "TOr", "TSingle", "TWild", "TLambda",
	"TMatch", "TCase",
	"XName", "XSelect", "XApply", "XNamed", "XTypes", "XInfix", "XPrefix", "XAssign", "XInt",
	"XLong", "XChar", "XString", "XTrue", "XFalse", "XNull", "XUnit", "XThis", "XSuper",
	"XInterp", "XIf", "XWhile", "XFor", "SGenerator", "SBinding", "SGuard", "XMatch", "SCase",
	"XTry", "SCases", "XThrow", "XReturn", "XLambda", "SLambdaParam", "XBlock", "XNew",
	"XTyped", "XQuote", "XSplice",
	"PWild", "PBind", "PTyped", "PLiteral", "PStable", "PApply", "PAlt",
}

// Name returns the name of a kind.
func Name(kind int) string {
	if kind < 0 || kind >= Kinds {
		return ""
	}
	return names[kind]
}

// kindNamed returns the kind with a name, -1 if there is none.
func kindNamed(name string) int {
	for k := range names {
		if names[k] == name {
			return k
		}
	}
	return -1
}

// beginsKind reports whether the name of a kind begins with a text.
func beginsKind(s string) bool {
	for k := range names {
		if strings.HasPrefix(names[k], s) {
			return true
		}
	}
	return false
}

func isDefinition(kind int) bool { return SImport <= kind && kind <= SEnumCase }

func isType(kind int) bool { return TName <= kind && kind <= TMatch }

func isPattern(kind int) bool { return PWild <= kind && kind <= PAlt }

// isExpression excludes what stands among the expressions in the order of the
// kinds, but only as a part of one.
func isExpression(kind int) bool {
	switch kind {
	case XNamed, SGenerator, SBinding, SGuard, SCase, SCases, SLambdaParam:
		return false
	}
	return XName <= kind && kind <= XSplice
}
