package printer

import "newel/syntax"

// rules returns the methods that write nodes, by their kinds.
func rules() map[int]func(*printer, syntax.Node) {
	table := map[int]func(*printer, syntax.Node){
		syntax.SUnit:      (*printer).unit,
		syntax.SImport:    (*printer).imports,
		syntax.SClass:     (*printer).class,
		syntax.SDef:       (*printer).def,
		syntax.SVal:       (*printer).val,
		syntax.SType:      (*printer).typeDefinition,
		syntax.SGiven:     (*printer).given,
		syntax.SExtension: (*printer).extension,
		syntax.TName:      (*printer).named,
		syntax.TSelect:    (*printer).typeSelect,
		syntax.TApply:     (*printer).typeApply,
		syntax.TFunction:  (*printer).function,
		syntax.TAnd:       (*printer).and,
		syntax.TOr:        (*printer).or,
		syntax.TSingle:    (*printer).single,
		syntax.TLambda:    (*printer).typeLambda,
		syntax.TMatch:     (*printer).typeMatch,
		syntax.XName:      (*printer).named,
		syntax.XSelect:    (*printer).selects,
		syntax.XApply:     (*printer).apply,
		syntax.XTypes:     (*printer).typeArgs,
		syntax.XInfix:     (*printer).infix,
		syntax.XPrefix:    (*printer).prefix,
		syntax.XAssign:    (*printer).assign,
		syntax.XThis:      (*printer).this,
		syntax.XInterp:    (*printer).interpolated,
		syntax.XIf:        (*printer).conditional,
		syntax.XWhile:     (*printer).loop,
		syntax.XFor:       (*printer).forExpr,
		syntax.SGenerator: (*printer).generator,
		syntax.SBinding:   (*printer).binding,
		syntax.SGuard:     (*printer).guard,
		syntax.XMatch:     (*printer).match,
		syntax.SCase:      (*printer).oneCase,
		syntax.XTry:       (*printer).try,
		syntax.XThrow:     (*printer).throw,
		syntax.XReturn:    (*printer).returns,
		syntax.XLambda:    (*printer).lambda,
		syntax.XBlock:     (*printer).block,
		syntax.XNew:       (*printer).newExpr,
		syntax.XTyped:     (*printer).typed,
		syntax.XQuote:     (*printer).quote,
		syntax.XSplice:    (*printer).splice,
		syntax.PWild:      (*printer).wild,
		syntax.PBind:      (*printer).bind,
		syntax.PTyped:     (*printer).typedPattern,
		syntax.PLiteral:   (*printer).literalPattern,
		syntax.PStable:    (*printer).stable,
		syntax.PApply:     (*printer).extractor,
		syntax.PAlt:       (*printer).alternatives,
	}
	for kind := syntax.XInt; kind <= syntax.XUnit; kind++ {
		table[kind] = (*printer).literal
	}
	return table
}
