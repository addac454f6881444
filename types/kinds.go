package types

import "newel/api"

// form is what the nodes of a kind look like: the fields that the kind uses,
// and how many Args it has.
type form struct {
	sym, name, num bool
	least, most    int
}

var forms = [api.TKinds]form{
	api.TClass:  {sym: true, most: MaxSize},
	api.TParam:  {sym: true},
	api.TMember: {sym: true, least: 1, most: 1},
	api.TThis:   {sym: true},
	api.TLocal:  {sym: true},
	api.TField:  {sym: true, least: 1, most: 1},
	api.TAnd:    {least: 2, most: 20},
	api.TOr:     {least: 2, most: 20},
	api.TFun:    {least: 1, most: api.MaxArgs + 1},
	api.TArray:  {least: 1, most: 1},
	api.TByName: {least: 1, most: 1},
	api.TRepeat: {least: 1, most: 1},
	api.TLambda: {num: true, least: 1, most: 1},
	api.TBound:  {sym: true, num: true},
	api.TApply:  {least: 2, most: api.MaxArgs + 1},
	api.TMatch:  {num: true, least: 3, most: 41},
	api.TRefine: {name: true, least: 3, most: 3},
	api.TWild:   {least: 2, most: 2},
	api.TVar:    {num: true},
}

// words are the texts of the kinds without any field.
var words = [api.TKinds]string{
	api.TAny:     "Any",
	api.TNothing: "Nothing",
	api.TNull:    "Null",
	api.TUnit:    "Unit",
	api.TBoolean: "Boolean",
	api.TChar:    "Char",
	api.TInt:     "Int",
	api.TLong:    "Long",
	api.TString:  "String",
}

func isKind(kind int) bool { return kind >= api.TAny && kind <= api.TVar }

// permits reports whether a node of a kind may have so many Args.
func permits(kind, args int) bool {
	if !isKind(kind) {
		return false
	}
	if kind == api.TMatch && args%2 == 0 {
		return false
	}
	return args >= forms[kind].least && args <= forms[kind].most
}

// hasForm reports whether a node has just the fields and as many Args as its
// kind.
func hasForm(t *api.Type) bool {
	f := forms[t.Kind]
	if t.Sym != 0 && !f.sym || t.Name != "" && !f.name || t.Num != 0 && !f.num {
		return false
	}
	return permits(t.Kind, len(t.Args))
}

// isSingleton reports whether types of a kind have one value.
func isSingleton(kind int) bool {
	return kind == api.TThis || kind == api.TLocal || kind == api.TField
}

// isReference reports whether types of a kind are a group that has null.
func isReference(kind int) bool {
	switch kind {
	case api.TString, api.TClass, api.TArray, api.TFun:
		return true
	}
	return false
}

// hasGroup reports whether types of a kind are a group.
func hasGroup(kind int) bool {
	switch kind {
	case api.TUnit, api.TBoolean, api.TChar, api.TInt, api.TLong:
		return true
	}
	return isReference(kind)
}
