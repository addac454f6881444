package syntax

import (
	"iter"
	"strings"
)

// maxRepeat is how often a form's group may be repeated.
const maxRepeat = 200

// forms has the Kids of right nodes. A letter is a kid (fits says which one),
// with a question mark behind it SNone may be in its place. Braces enclose what
// may be repeated; behind them, a plus sign asks for it once at least, and a
// digit permits it that often at most. No form has more than one group.
var forms = [Kinds]string{
	SUnit:        "{D}",
	SClass:       "mnlrb?",
	SDef:         "mnlT?E?",
	SVal:         "mT?E?",
	SType:        "mnT?T?T?",
	SGiven:       "mnlTE",
	SExtension:   "np{d}+",
	SEnumCase:    "nlr",
	SNames:       "{t}",
	STParam:      "T?T?{-}",
	SLists:       "{q}4",
	SParams:      "{p}",
	SParam:       "mTE?",
	SParents:     "{s}",
	SParent:      "T{E}",
	SBody:        "{S}",
	TSelect:      "o",
	TApply:       "T{T}+",
	TFunction:    "{T}T",
	TAnd:         "TT",
	TOr:          "TT",
	TSingle:      "o",
	TWild:        "T?T?",
	TLambda:      "nT",
	TMatch:       "T{c}+",
	TCase:        "TT",
	XSelect:      "E",
	XApply:       "E{a}",
	XNamed:       "E",
	XTypes:       "E{T}+",
	XInfix:       "EE",
	XPrefix:      "E",
	XAssign:      "EE",
	XInterp:      "i{Ei}",
	XIf:          "EEE?",
	XWhile:       "EE",
	XFor:         "g{f}E",
	SGenerator:   "PE",
	SBinding:     "PE",
	SGuard:       "E",
	XMatch:       "E{k}+",
	SCase:        "PE?E",
	XTry:         "EhE?",
	SCases:       "{k}",
	XThrow:       "E",
	XReturn:      "E?",
	XLambda:      "{y}E",
	SLambdaParam: "T?",
	XBlock:       "{S}",
	XNew:         "ub?",
	XTyped:       "ET",
	XQuote:       "E",
	XSplice:      "E",
	PBind:        "v",
	PTyped:       "T",
	PLiteral:     "z",
	PApply:       "{P}",
	PAlt:         "w{w}+",
}

// fits reports whether a node may be the kid that a letter of a form means.
func fits(letter byte, n *Node) bool {
	switch letter {
	case 'D':
		return isDefinition(n.Kind)
	case 'E':
		return isExpression(n.Kind)
	case 'P':
		return isPattern(n.Kind)
	case 'S':
		return isDefinition(n.Kind) || isExpression(n.Kind)
	case 'T':
		return isType(n.Kind)
	case 'a':
		return isExpression(n.Kind) || n.Kind == XNamed
	case 'd':
		return n.Kind == SDef && n.Num == 0
	case 'f':
		return n.Kind == SGenerator || n.Kind == SBinding || n.Kind == SGuard
	case 'o':
		return selects(n)
	case 'u':
		return n.Kind == SParents && len(n.Kids) > 0
	case 'v':
		return isPattern(n.Kind) && n.Kind != PBind
	case 'w':
		return isPattern(n.Kind) && n.Kind != PAlt
	case 'z':
		return isLiteral(n)
	}
	return n.Kind == onlyKind(letter)
}

// onlyKind returns the kind that a letter of a form means, if it is just one;
// the sign - means SNone.
func onlyKind(letter byte) int {
	switch letter {
	case 'b':
		return SBody
	case 'c':
		return TCase
	case 'g':
		return SGenerator
	case 'h':
		return SCases
	case 'i':
		return XString
	case 'k':
		return SCase
	case 'l':
		return SLists
	case 'm':
		return SMods
	case 'n':
		return SNames
	case 'p':
		return SParam
	case 'q':
		return SParams
	case 'r':
		return SParents
	case 's':
		return SParent
	case 't':
		return STParam
	case 'y':
		return SLambdaParam
	}
	return SNone
}

// selects reports whether an expression is what types select from: XName,
// XThis, or XSelect of these.
func selects(n *Node) bool {
	for n.Kind == XSelect && len(n.Kids) == 1 {
		n = &n.Kids[0]
	}
	return n.Kind == XName || n.Kind == XThis
}

// isLiteral reports whether a node is what a PLiteral consists of.
func isLiteral(n *Node) bool {
	if n.Kind == XPrefix {
		return n.Text == "-" && len(n.Kids) == 1 && (n.Kids[0].Kind == XInt || n.Kids[0].Kind == XLong)
	}
	return XInt <= n.Kind && n.Kind <= XUnit
}

// matches reports whether a form permits a list of kids.
func matches(form string, kids []Node) bool {
	head, rest, grouped := strings.Cut(form, "{")
	if !grouped {
		return eachFits(form, kids)
	}
	group, tail, _ := strings.Cut(rest, "}")
	least, most := 0, maxRepeat
	switch {
	case strings.HasPrefix(tail, "+"):
		least, tail = 1, tail[1:]
	case tail != "" && isDigit(tail[0]):
		most, tail = int(tail[0]-'0'), tail[1:]
	}
	from, to := width(head), len(kids)-width(tail)
	if to < from || !eachFits(head, kids[:from]) || !eachFits(tail, kids[to:]) {
		return false
	}
	return repeats(group, kids[from:to], least, most)
}

// repeats reports whether kids are a group of a form, least to most times.
func repeats(group string, kids []Node, least, most int) bool {
	size := width(group)
	times := len(kids) / size
	if len(kids)%size != 0 || times < least || times > most {
		return false
	}
	for i := range times {
		if !eachFits(group, kids[i*size:(i+1)*size]) {
			return false
		}
	}
	return true
}

// eachFits reports whether kids are those of a form without a group.
func eachFits(form string, kids []Node) bool {
	if len(kids) != width(form) {
		return false
	}
	for item, kid := range paired(form, kids) {
		left := len(item) > 1 && kid.Kind == SNone
		if !left && !fits(item[0], kid) {
			return false
		}
	}
	return true
}

// paired visits the items of a form without a group, which are a letter and
// perhaps a question mark, with as many kids.
func paired(form string, kids []Node) iter.Seq2[string, *Node] {
	return func(yield func(string, *Node) bool) {
		for i := range kids {
			size := 1
			if strings.HasPrefix(form[1:], "?") {
				size = 2
			}
			if !yield(form[:size], &kids[i]) {
				return
			}
			form = form[size:]
		}
	}
}

// width returns how many kids a form without a group has.
func width(form string) int {
	return len(form) - strings.Count(form, "?")
}
