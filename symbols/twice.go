package symbols

import "newel/api"

// once is the code for something that is there again or not.
func once(again bool) api.Errno {
	if again {
		return api.ErrTwice
	}
	return api.OK
}

// classTwice is rule 8 for classes: a class and an object may have one name.
func (t *tables) classTwice(index int) api.Errno {
	k := t.p.Classes[index]
	first := FindClass(t.p, k.Owner, k.Name, k.Kind == api.IsObject)
	return once(first != index)
}

// fieldTwice is rule 8 for fields.
func (t *tables) fieldTwice(index int) api.Errno {
	f := t.p.Fields[index]
	for _, g := range t.p.Fields[:index] {
		if g.Owner == f.Owner && g.Name == f.Name {
			return api.ErrTwice
		}
	}
	return api.OK
}

// methodTwice is rule 8 for methods, which may have the names of other methods.
func (t *tables) methodTwice(index int) api.Errno {
	m := t.p.Methods[index]
	if m.Owner == -1 {
		return api.OK
	}
	for _, i := range t.p.Classes[m.Owner].Fields {
		if t.p.Fields[i].Name == m.Name {
			return api.ErrTwice
		}
	}
	return api.OK
}

// typeMemberTwice is rule 8 for type members.
func (t *tables) typeMemberTwice(index int) api.Errno {
	x := t.p.Types[index]
	for _, y := range t.p.Types[:index] {
		if y.Owner == x.Owner && y.Name == x.Name {
			return api.ErrTwice
		}
	}
	return api.OK
}

// typeParamTwice is rule 8 for type parameters.
func (t *tables) typeParamTwice(index int) api.Errno {
	x := t.p.TParams[index]
	for _, y := range t.p.TParams[:index] {
		if y.Class == x.Class && y.Method == x.Method && y.Name == x.Name {
			return api.ErrTwice
		}
	}
	return api.OK
}
