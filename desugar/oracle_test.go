package desugar

import (
	"strconv"
	"strings"

	"newel/api"
	"newel/syntax"
)

// oracle writes the text form of the core tree of a tree by the templates of
// the chapter.
type oracle struct {
	out   strings.Builder
	taken map[string]bool
	last  int // number of the last fresh name
	count int // nodes replaced
}

// expected returns the text form of the core tree, or the first fault. Neither
// the limit of nodes nor the check of what was made is looked at.
func expected(n syntax.Node) (text string, fault api.Fault) {
	o := &oracle{taken: map[string]bool{}}
	o.collect(n)
	defer func() {
		if r := recover(); r != nil {
			text, fault = "", r.(api.Fault)
		}
	}()
	o.write(n)
	return o.out.String(), api.Fault{}
}

func (o *oracle) collect(n syntax.Node) {
	o.taken[n.Text] = true
	for _, k := range n.Kids {
		o.collect(k)
	}
}

func (o *oracle) fresh() string {
	for {
		o.last++
		if name := "_" + strconv.Itoa(o.last); !o.taken[name] {
			return name
		}
	}
}

// give writes a template: texts, and trees that are written when the whole
// template is known.
func (o *oracle) give(template ...any) {
	for _, x := range template {
		switch x := x.(type) {
		case string:
			o.out.WriteString(x)
		case syntax.Node:
			o.write(x)
		case []syntax.Node:
			for _, n := range x {
				o.give(" ", n)
			}
		case []any:
			o.give(x...)
		}
	}
}

// head returns the beginning of a text form.
func head(n syntax.Node) string {
	quoted, _ := syntax.Text(syntax.Node{Kind: syntax.XString, Text: n.Text}) // with the escapes of any Text
	s := "(" + syntax.Name(n.Kind) + strings.TrimSuffix(strings.TrimPrefix(quoted, "(XString"), ")")
	if n.Num != 0 {
		s += " " + strconv.FormatInt(n.Num, 10)
	}
	return s
}

func (o *oracle) asItIs(n syntax.Node) {
	o.out.WriteString(head(n))
	for _, k := range n.Kids {
		o.out.WriteString(" ")
		o.asItIs(k)
	}
	o.out.WriteString(")")
}

func bad(at int, code api.Errno) { panic(api.Fault{At: at, Code: code}) }

// write writes what a node is replaced by.
func (o *oracle) write(n syntax.Node) {
	if o.count++; o.count > 4*api.MaxNodes {
		bad(-1, api.ErrLimit)
	}
	k := n.Kids
	switch {
	case n.Kind == syntax.PLiteral:
		o.asItIs(n)
	case n.Kind == syntax.XInfix:
		o.infix(n)
	case n.Kind == syntax.XPrefix:
		o.give(`(XSelect "`+n.Text+`" `, k[0], `)`)
	case n.Kind == syntax.XAssign:
		o.assign(n)
	case n.Kind == syntax.XInterp && n.Text == "s":
		middle := []any{k[0]}
		calls := ""
		for _, x := range k[1:] {
			if x.Kind != syntax.XString || x.Text != "" {
				calls += `(XApply (XSelect "+" `
				middle = append(middle, `) `, x, `)`)
			}
		}
		o.give(calls, middle)
	case n.Kind == syntax.XInterp:
		bad(n.At, api.ErrName)
	case n.Kind == syntax.XFor:
		o.give(o.loop(n.Num == 1, k[:len(k)-1], k[len(k)-1]))
	case n.Kind == syntax.XIf && k[2].Kind == syntax.SNone:
		o.give(`(XIf`, k[:2], ` (XUnit))`)
	case n.Kind == syntax.XReturn && k[0].Kind == syntax.SNone:
		o.give(`(XReturn (XUnit))`)
	case n.Kind == syntax.XBlock:
		o.block(n)
	case n.Kind == syntax.SLambdaParam && n.Text == "_":
		o.give(`(SLambdaParam "`+o.fresh()+`"`, k, `)`)
	case n.Kind == syntax.SEnumCase:
		bad(n.At, api.ErrForm)
	case n.Kind == syntax.SExtension:
		o.extension(n)
	case n.Kind == syntax.SClass && n.Num == 5:
		o.enum(n)
	default:
		if n.Kind == syntax.SLists {
			using := false
			for _, l := range k {
				if using && l.Num == 0 {
					bad(l.At, api.ErrOrder)
				}
				using = l.Num == 1
			}
		}
		o.give(head(n), k, `)`)
	}
}

func (o *oracle) infix(n syntax.Node) {
	a, b := n.Kids[0], n.Kids[1]
	switch op := n.Text; {
	case op == "&&":
		o.give(`(XIf `, a, ` `, b, ` (XFalse))`)
	case op == "||":
		o.give(`(XIf `, a, ` (XTrue) `, b, `)`)
	case op == "!=":
		o.give(`(XSelect "!" (XApply (XSelect "==" `, a, `) `, b, `))`)
	case op[len(op)-1] == ':':
		name := o.fresh()
		o.give(`(XBlock (SVal "`+name+`" (SMods) (SNone) `, a, `) (XApply (XSelect "`+op+`" `, b, `) (XName "`+name+`")))`)
	default:
		o.give(`(XApply (XSelect "`+op+`" `, a, `) `, b, `)`)
	}
}

func (o *oracle) assign(n syntax.Node) {
	l, value := n.Kids[0], n.Kids[1]
	if len(n.Text) > 1 {
		value = syntax.Node{Kind: syntax.XInfix, Text: n.Text[:len(n.Text)-1], Kids: n.Kids, At: n.At}
	}
	switch l.Kind {
	case syntax.XApply:
		o.give(`(XApply (XSelect "update" `, l.Kids[0], `)`, l.Kids[1:], ` `, value, `)`)
	case syntax.XName, syntax.XSelect:
		o.give(`(XAssign "=" `, l, ` `, value, `)`)
	default:
		bad(n.At, api.ErrForm)
	}
}

func (o *oracle) block(n syntax.Node) {
	for _, k := range n.Kids {
		definition := syntax.Name(k.Kind)[0] == 'S'
		if definition && k.Kind != syntax.SImport && (k.Kind != syntax.SVal || k.Kids[2].Kind == syntax.SNone) {
			bad(k.At, api.ErrForm)
		}
	}
	end := ``
	if len(n.Kids) == 0 || syntax.Name(n.Kids[len(n.Kids)-1].Kind)[0] == 'S' {
		end = ` (XUnit)`
	}
	o.give(`(XBlock`, n.Kids, end, `)`)
}

// loop is T of the chapter, case by case.
func (o *oracle) loop(yields bool, list []syntax.Node, body any) []any {
	m, f := `"foreach" `, `"foreach" `
	if yields {
		m, f = `"map" `, `"flatMap" `
	}
	return o.calls(m, f, list[0].Kids[0], []any{list[0].Kids[1]}, list[1:], body)
}

func (o *oracle) calls(m, f string, p syntax.Node, e []any, r []syntax.Node, body any) []any {
	if len(r) == 0 {
		return o.call(e, m, p, func() any { return body })
	}
	switch r[0].Kind {
	case syntax.SGuard:
		return o.calls(m, f, p, o.call(e, `"withFilter" `, p, func() any { return r[0].Kids[0] }), r[1:], body)
	case syntax.SGenerator:
		return o.call(e, f, p, func() any { return o.calls(m, f, r[0].Kids[0], []any{r[0].Kids[1]}, r[1:], body) })
	}
	b := 0
	for b < len(r) && r[b].Kind == syntax.SBinding {
		b++
	}
	if b == len(r) {
		return o.call(e, m, p, func() any { return let(r, body) })
	}
	if r[b].Kind == syntax.SGenerator {
		return o.call(e, f, p, func() any {
			return let(r[:b], o.calls(m, f, r[b].Kids[0], []any{r[b].Kids[1]}, r[b+1:], body))
		})
	}
	e = o.call(e, `"withFilter" `, p, func() any { return let(r[:b], r[b].Kids[0]) })
	rest := append(append([]syntax.Node{}, r[:b]...), r[b+1:]...)
	return o.calls(m, f, p, e, rest, body)
}

func let(list []syntax.Node, x any) any {
	if len(list) == 0 {
		return x
	}
	return []any{`(XMatch `, list[0].Kids[1], ` (SCase `, list[0].Kids[0], ` (SNone) `, let(list[1:], x), `))`}
}

// call returns e.m(p => body); the body is asked for behind the parameter.
func (o *oracle) call(e []any, m string, p syntax.Node, body func() any) []any {
	begin := []any{`(XApply (XSelect `, m, e, `) (XLambda `}
	switch {
	case p.Kind == syntax.PBind && p.Kids[0].Kind == syntax.PWild:
		return append(begin, `(SLambdaParam "`+p.Text+`" (SNone)) `, body(), `))`)
	case p.Kind == syntax.PTyped && p.Text != "_":
		return append(begin, `(SLambdaParam "`+p.Text+`" `, p.Kids[0], `) `, body(), `))`)
	}
	n := o.fresh()
	return append(begin, `(SLambdaParam "`+n+`" (SNone)) (XMatch (XName "`+n+`") (SCase `, p, ` (SNone) `, body(), `))))`)
}

func (o *oracle) extension(n syntax.Node) {
	for i, def := range n.Kids[2:] {
		if i > 0 {
			o.out.WriteString(" ")
		}
		k := def.Kids
		list := syntax.Node{Kind: syntax.SParams, Kids: n.Kids[1:2]}
		names := syntax.Node{Kind: syntax.SNames, Kids: append(append([]syntax.Node{}, n.Kids[0].Kids...), k[1].Kids...)}
		lists := syntax.Node{Kind: syntax.SLists, Kids: append([]syntax.Node{list}, k[2].Kids...)}
		def.Num = 1
		o.give(head(def)+` `, k[0], ` `, names, ` `, lists, k[3:], `)`)
	}
}

func (o *oracle) enum(n syntax.Node) {
	k := n.Kids
	if k[0].Num&api.Final != 0 {
		bad(n.At, api.ErrFinal)
	}
	flags := syntax.Node{Kind: syntax.SMods, Num: k[0].Num | api.Sealed | api.Abstract}
	rest := syntax.Node{Kind: syntax.SBody}
	var classes []any
	for _, c := range k[4].Kids {
		if c.Kind != syntax.SEnumCase {
			rest.Kids = append(rest.Kids, c)
			continue
		}
		classes = append(classes, ` `, oneCase(n, c))
	}
	if classes == nil {
		bad(n.At, api.ErrEmpty)
	}
	if rest.Kids == nil {
		rest = syntax.Node{}
	}
	n.Num = 0
	o.give(head(n)+` `, flags, k[1:4], ` `, rest, `)`, classes)
}

func oneCase(n, c syntax.Node) []any {
	num, names, parents := ` 3 (SMods) `, any(c.Kids[0]), any(c.Kids[2])
	isObject := len(c.Kids[1].Kids) == 0
	if isObject {
		num, names = ` 4 (SMods) `, `(SNames)`
	}
	if len(c.Kids[2].Kids) == 0 {
		if !isObject && len(c.Kids[0].Kids) == 0 {
			names = n.Kids[1]
		}
		parent := `(TName "` + n.Text + `")`
		for _, p := range n.Kids[1].Kids {
			arg := p.Text
			switch {
			case isObject && p.Num == api.Covariant:
				arg = "Nothing"
			case isObject && p.Num == api.Contravariant:
				arg = "Any"
			case isObject:
				bad(c.At, api.ErrVariance)
			}
			parent += ` (TName "` + arg + `")`
		}
		if len(n.Kids[1].Kids) > 0 {
			parent = `(TApply ` + parent + `)`
		}
		parents = `(SParents (SParent ` + parent + `))`
	}
	return []any{`(SClass "` + c.Text + `"` + num, names, ` `, c.Kids[1], ` `, parents, ` (SNone))`}
}
