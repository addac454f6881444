package symbols

import (
	"slices"
	"strings"

	"newel/api"
)

// oracle finds all faults of a program, in any order, each with its place among
// the rules, and takes the one whose place is the first.
type oracle struct {
	p     api.Program
	place []int
	fault Fault
}

// tell notes a fault: the stage among the lists of the chapter, the item, and
// places within the item.
func (o *oracle) tell(wrong bool, code api.Errno, part, index int, stage int, within ...int) {
	if !wrong {
		return
	}
	place := append([]int{stage, index}, within...)
	if o.place == nil || slices.Compare(place, o.place) < 0 {
		o.place = place
		o.fault = Fault{part, index, code}
	}
}

func oracleName(s string) bool {
	word, mark := true, true
	for _, c := range []byte(s) {
		word = word && strings.IndexByte("abcdefghijklmnopqrstuvwxyzABCDEFGHIJKLMNOPQRSTUVWXYZ0123456789_$", c) >= 0
		mark = mark && strings.IndexByte("+-*/%<>=!&|^~:?", c) >= 0
	}
	return len(s) >= 1 && len(s) <= 64 && (mark || word && (s[0] < '0' || s[0] > '9'))
}

func oracleCheck(p api.Program) Fault {
	for _, n := range []int{len(p.Classes), len(p.Methods), len(p.Fields), len(p.TParams), len(p.Types)} {
		if n > 500 {
			return Fault{0, 0, api.ErrLimit}
		}
	}
	o := &oracle{p: p}
	for i := range p.Classes {
		o.class(i)
	}
	// Behind rule 2 all owners and lists are right, without which the others
	// have no meaning; likewise behind the rules 4, 6 and 7.
	for _, next := range []func(){o.nesting, o.parents, o.ancestry, o.methods, o.others, o.names, o.main} {
		if o.place != nil {
			break
		}
		next()
	}
	return o.fault
}

// repeats reports whether an element of a list is there again.
func repeats[T comparable](list []T) bool {
	for i, x := range list {
		if slices.Contains(list[i+1:], x) {
			return true
		}
	}
	return false
}

func (o *oracle) class(i int) {
	p, k := o.p, o.p.Classes[i]
	tell := func(wrong bool, code api.Errno, order int) { o.tell(wrong, code, PClass, i, 2, order) }
	tell(!oracleName(k.Name), api.ErrName, 1)
	tell(k.Kind != api.IsClass && k.Kind != api.IsTrait && k.Kind != api.IsObject, api.ErrKind, 2)
	for bit := range 64 {
		on := k.Flags>>bit&1 == 1
		tell(on && !slices.Contains([]int{0, 1, 2, 3, 5, 6, 14}, bit), api.ErrInvalid, 3)
		tell(on && k.Kind == api.IsTrait && slices.Contains([]int{1, 5, 6}, bit), api.ErrInvalid, 3)
		tell(on && k.Kind == api.IsObject && slices.Contains([]int{0, 2, 6}, bit), api.ErrInvalid, 3)
	}
	tell(k.Flags&1 == 1 && k.Flags&2 == 2, api.ErrInvalid, 3)
	tell(k.Owner < -1 || k.Owner >= len(p.Classes) || k.Owner == i, api.ErrRange, 4)
	for place, list := range [][]int{k.TParams, k.Params, k.Fields, k.Methods, k.Types} {
		size := []int{len(p.TParams), len(p.Fields), len(p.Fields), len(p.Methods), len(p.Types)}[place]
		for _, x := range list {
			tell(x < 0 || x >= size, api.ErrRange, 4)
		}
		tell(repeats(list), api.ErrTwice, 5)
		for _, x := range list {
			if x < 0 || x >= size {
				continue
			}
			switch place {
			case 0:
				tell(p.TParams[x].Class != i || p.TParams[x].Method != -1, api.ErrInvalid, 7)
			case 1:
				tell(!slices.Contains(k.Fields, x), api.ErrInvalid, 7)
			case 2:
				tell(p.Fields[x].Owner != i, api.ErrInvalid, 7)
			case 3:
				tell(p.Methods[x].Owner != i, api.ErrInvalid, 7)
			case 4:
				tell(p.Types[x].Owner != i, api.ErrInvalid, 7)
			}
		}
	}
	tell(len(k.TParams) > 12 || len(k.Params) > 12, api.ErrArity, 6)
	tell(k.Kind == api.IsTrait && len(k.Params) > 0, api.ErrArity, 6)
	tell(k.Kind == api.IsObject && len(k.Params)+len(k.TParams) > 0, api.ErrArity, 6)
	tell(k.Flags&64 != 0 && (len(k.Params) != 1 || len(k.Fields) != 1), api.ErrInvalid, 8)
}

// reaches reports whether steps lead from one class to another one.
func reaches(from, to int, next func(int) []int) bool {
	seen := map[int]bool{}
	var walk func(int) bool
	walk = func(i int) bool {
		for _, j := range next(i) {
			if j == to {
				return true
			}
			if !seen[j] {
				seen[j] = true
				if walk(j) {
					return true
				}
			}
		}
		return false
	}
	return walk(from)
}

func (o *oracle) outward(i int) []int {
	if owner := o.p.Classes[i].Owner; owner >= 0 && owner < len(o.p.Classes) {
		return []int{owner}
	}
	return nil
}

func (o *oracle) upward(i int) []int {
	var l []int
	for _, x := range o.p.Classes[i].Parents {
		if x.Kind == api.TClass && x.Sym >= 0 && x.Sym < len(o.p.Classes) {
			l = append(l, x.Sym)
		}
	}
	return l
}

func (o *oracle) nesting() {
	for i := range o.p.Classes {
		o.tell(reaches(i, i, o.outward), api.ErrCycle, PClass, i, 3)
	}
}

func (o *oracle) parents() {
	for i, k := range o.p.Classes {
		o.tell(len(k.Parents) == 0, api.ErrEmpty, PClass, i, 4, -2)
		o.tell(len(k.Parents) > 12, api.ErrLimit, PClass, i, 4, -1)
		for j, x := range k.Parents {
			tell := func(wrong bool, code api.Errno, order int) { o.tell(wrong, code, PClass, i, 4, j, order) }
			if x.Kind != api.TClass {
				tell(j > 0 || x.Kind != api.TAny, api.ErrKind, 1)
				continue
			}
			if x.Sym < 0 || x.Sym >= len(o.p.Classes) {
				tell(true, api.ErrRange, 2)
				continue
			}
			y := o.p.Classes[x.Sym]
			tell(j == 0 && y.Kind != api.IsClass, api.ErrKind, 3)
			tell(j == 0 && k.Kind == api.IsTrait, api.ErrKind, 3)
			tell(j > 0 && y.Kind != api.IsTrait, api.ErrKind, 3)
			tell(y.Flags&2 != 0, api.ErrFinal, 4)
			tell(len(y.TParams) != len(x.Args), api.ErrArity, 5)
			for _, z := range k.Parents[:j] {
				tell(z.Kind == api.TClass && z.Sym == x.Sym, api.ErrTwice, 6)
			}
			tell(k.Flags&32 != 0 && y.Flags&32 != 0, api.ErrInvalid, 7)
			tell(k.Flags&64 != 0 && k.Parents[0].Kind != api.TAny, api.ErrInvalid, 7)
		}
	}
}

func (o *oracle) ancestry() {
	for i, k := range o.p.Classes {
		o.tell(reaches(i, i, o.upward), api.ErrCycle, PClass, i, 5, 1)
		for j, y := range o.p.Classes {
			o.tell(k.Flags&y.Flags&32 != 0 && reaches(i, j, o.upward), api.ErrInvalid, PClass, i, 5, 2)
		}
	}
}

func (o *oracle) methods() {
	for i, m := range o.p.Methods {
		o.method(i, m)
	}
}

func (o *oracle) method(i int, m api.Method) {
	p := o.p
	tell := func(wrong bool, code api.Errno, order ...int) { o.tell(wrong, code, PMethod, i, 6, order...) }
	tell(!oracleName(m.Name), api.ErrName, 1)
	for bit := range 64 {
		on := m.Flags>>bit&1 == 1
		tell(on && !slices.Contains([]int{0, 1, 3, 4, 10, 12, 13, 14}, bit), api.ErrInvalid, 2)
		tell(on && m.Flags&1 == 1 && (bit == 1 || bit == 3 || bit == 12), api.ErrInvalid, 2)
	}
	tell(m.Flags&1 == 1 && m.Body != nil, api.ErrInvalid, 2)
	tell(m.Flags&1 == 0 && m.Body == nil, api.ErrInvalid, 2)
	inside := m.Owner >= 0 && m.Owner < len(p.Classes)
	tell(m.Owner != -1 && !inside, api.ErrRange, 3)
	for _, x := range m.TParams {
		if x < 0 || x >= len(p.TParams) {
			tell(true, api.ErrRange, 3)
			continue
		}
		tell(p.TParams[x].Method != i || p.TParams[x].Class != -1, api.ErrInvalid, 9)
	}
	tell(repeats(m.TParams), api.ErrTwice, 4)
	tell(len(m.TParams) > 12 || m.Params < 0 || m.Params > 12 || m.Params > len(m.Locals), api.ErrArity, 5)
	tell(len(m.Locals) > 200, api.ErrLimit, 6)
	var names []string
	for j, x := range m.Locals {
		tell(!oracleName(x.Name), api.ErrName, 7, j, 1)
		bits := []int{7, 8, 10, 11, 14}
		if j < m.Params {
			bits = []int{11, 14}
			names = append(names, x.Name)
		}
		for bit := range 64 {
			tell(x.Flags>>bit&1 == 1 && !slices.Contains(bits, bit), api.ErrInvalid, 7, j, 2)
		}
		tell(x.Flags&128 != 0 && x.Flags&256 != 0, api.ErrInvalid, 7, j, 2)
	}
	tell(repeats(names), api.ErrTwice, 8)
	if inside {
		k := p.Classes[m.Owner]
		tell(!slices.Contains(k.Methods, i), api.ErrNoEntry, 10)
		tell(m.Flags&1 == 1 && k.Kind != api.IsTrait && k.Flags&1 == 0, api.ErrAbstract, 11)
	} else {
		tell(m.Flags&1 == 1, api.ErrAbstract, 11)
		tell(m.Flags&16 == 16, api.ErrInvalid, 12)
	}
}

func (o *oracle) others() {
	p := o.p
	for i, f := range p.Fields {
		tell := func(wrong bool, code api.Errno, order int) { o.tell(wrong, code, PField, i, 71, order) }
		tell(!oracleName(f.Name), api.ErrName, 1)
		for bit := range 64 {
			tell(f.Flags>>bit&1 == 1 && !slices.Contains([]int{1, 3, 4, 7, 8, 9, 10, 14}, bit), api.ErrInvalid, 2)
		}
		tell(f.Flags&128 != 0 && f.Flags&256 != 0, api.ErrInvalid, 2)
		tell(f.Flags&128 == 0 && f.Flags&512 != 0, api.ErrInvalid, 2)
		if f.Owner < 0 || f.Owner >= len(p.Classes) {
			tell(true, api.ErrRange, 3)
			continue
		}
		tell(!slices.Contains(p.Classes[f.Owner].Fields, i), api.ErrNoEntry, 4)
		tell(f.Flags&256 != 0 && slices.Contains(p.Classes[f.Owner].Params, i), api.ErrInvalid, 5)
	}
	for i, x := range p.TParams {
		tell := func(wrong bool, code api.Errno, order int) { o.tell(wrong, code, PTParam, i, 72, order) }
		tell(!oracleName(x.Name), api.ErrName, 1)
		tell(x.Variance < -1 || x.Variance > 1 || x.Arity < 0 || x.Arity > 12, api.ErrRange, 2)
		var list []int
		switch {
		case x.Method == -1 && x.Class >= 0 && x.Class < len(p.Classes):
			list = p.Classes[x.Class].TParams
		case x.Class == -1 && x.Method >= 0 && x.Method < len(p.Methods):
			list = p.Methods[x.Method].TParams
			tell(x.Variance != 0, api.ErrVariance, 4)
		default:
			tell(true, api.ErrRange, 2)
		}
		tell(!slices.Contains(list, i), api.ErrNoEntry, 3)
	}
	for i, x := range p.Types {
		tell := func(wrong bool, code api.Errno, order int) { o.tell(wrong, code, PTypeMember, i, 73, order) }
		tell(!oracleName(x.Name), api.ErrName, 1)
		tell(x.Arity < 0 || x.Arity > 12, api.ErrRange, 2)
		if x.Owner < 0 || x.Owner >= len(p.Classes) {
			tell(true, api.ErrRange, 2)
			continue
		}
		tell(!slices.Contains(p.Classes[x.Owner].Types, i), api.ErrNoEntry, 3)
	}
}

func (o *oracle) names() {
	p := o.p
	for i, k := range p.Classes {
		for _, h := range p.Classes[:i] {
			same := (k.Kind == api.IsObject) == (h.Kind == api.IsObject)
			o.tell(k.Owner == h.Owner && k.Name == h.Name && same, api.ErrTwice, PClass, i, 81)
		}
	}
	for i, f := range p.Fields {
		for _, g := range p.Fields[:i] {
			o.tell(f.Owner == g.Owner && f.Name == g.Name, api.ErrTwice, PField, i, 82)
		}
		for j, m := range p.Methods {
			o.tell(m.Owner == f.Owner && m.Name == f.Name, api.ErrTwice, PMethod, j, 83)
		}
	}
	for i, x := range p.Types {
		for _, y := range p.Types[:i] {
			o.tell(x.Owner == y.Owner && x.Name == y.Name, api.ErrTwice, PTypeMember, i, 84)
		}
	}
	for i, x := range p.TParams {
		for _, y := range p.TParams[:i] {
			o.tell(x.Class == y.Class && x.Method == y.Method && x.Name == y.Name, api.ErrTwice, PTParam, i, 85)
		}
	}
}

func (o *oracle) main() {
	p, i := o.p, o.p.Main
	if i < 0 || i >= len(p.Methods) {
		o.tell(i != -1, api.ErrRange, PMain, i, 9)
		return
	}
	m := p.Methods[i]
	right := m.Params == 0 && len(m.TParams) == 0 && m.Flags&1 == 0
	if m.Owner >= 0 {
		right = right && p.Classes[m.Owner].Kind == api.IsObject && p.Classes[m.Owner].Owner == -1
	}
	o.tell(!right, api.ErrInvalid, PMain, i, 9)
}
