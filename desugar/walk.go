package desugar

import (
	"newel/api"
	"newel/syntax"
)

// desugaring is the work on one tree.
type desugaring struct {
	rules   map[int]func(*desugaring, syntax.Node) syntax.Node   // what replaces nodes, by their kinds
	several map[int]func(*desugaring, syntax.Node) []syntax.Node // the same where it may be several nodes
	fresh   func() string
	at      int // the At of the node that is replaced, which the nodes that are made have
}

func newDesugaring(n syntax.Node) *desugaring {
	return &desugaring{
		rules: map[int]func(*desugaring, syntax.Node) syntax.Node{
			syntax.XInfix:       (*desugaring).infix,
			syntax.XPrefix:      (*desugaring).prefix,
			syntax.XAssign:      (*desugaring).assign,
			syntax.XInterp:      (*desugaring).interpolated,
			syntax.XFor:         (*desugaring).forExpr,
			syntax.XIf:          (*desugaring).conditional,
			syntax.XReturn:      (*desugaring).returns,
			syntax.XBlock:       (*desugaring).block,
			syntax.SLambdaParam: (*desugaring).lambdaParam,
			syntax.SEnumCase:    (*desugaring).strayCase,
			syntax.SLists:       (*desugaring).lists,
		},
		several: map[int]func(*desugaring, syntax.Node) []syntax.Node{
			syntax.SExtension: (*desugaring).extension,
			syntax.SClass:     (*desugaring).class,
		},
		fresh: freshNames(n),
	}
}

// walker returns the function that replaces the nodes of a list, each one ahead
// of its kids.
func (d *desugaring) walker() func([]syntax.Node) []syntax.Node {
	count := 0
	var walk func([]syntax.Node) []syntax.Node
	walk = func(list []syntax.Node) []syntax.Node {
		var made []syntax.Node
		for _, n := range list {
			for _, m := range d.replace(n) {
				if count++; count > api.MaxNodes {
					panic(api.Fault{Code: api.ErrLimit})
				}
				if m.Kind == syntax.PLiteral {
					m.Kids = copied(m.Kids)
				} else {
					m.Kids = walk(m.Kids)
				}
				made = append(made, m)
			}
		}
		return made
	}
	return walk
}

// replace returns what stands in the place of a node; the kids of that are yet
// to be replaced.
func (d *desugaring) replace(n syntax.Node) []syntax.Node {
	d.at = n.At
	if rule := d.several[n.Kind]; rule != nil {
		return rule(d, n)
	}
	if rule := d.rules[n.Kind]; rule != nil {
		n = rule(d, n)
	}
	return []syntax.Node{n}
}

// copied returns nodes as they are, in new memory.
func copied(list []syntax.Node) []syntax.Node {
	var made []syntax.Node
	for _, n := range list {
		n.Kids = copied(n.Kids)
		made = append(made, n)
	}
	return made
}

// fail leaves with a fault.
func fail(at int, code api.Errno) { panic(api.Fault{At: at, Code: code}) }

// node returns a node that is made.
func (d *desugaring) node(kind int, text string, kids ...syntax.Node) syntax.Node {
	return syntax.Node{Kind: kind, Text: text, Kids: kids, At: d.at}
}

func (d *desugaring) none() syntax.Node { return d.node(syntax.SNone, "") }

func (d *desugaring) unit() syntax.Node { return d.node(syntax.XUnit, "") }

func (d *desugaring) name(name string) syntax.Node { return d.node(syntax.XName, name) }

func (d *desugaring) selects(e syntax.Node, name string) syntax.Node {
	return d.node(syntax.XSelect, name, e)
}

// call returns e.name(args).
func (d *desugaring) call(e syntax.Node, name string, args ...syntax.Node) syntax.Node {
	return d.node(syntax.XApply, "", joined([]syntax.Node{d.selects(e, name)}, args)...)
}

// match returns the match of a value with a single case.
func (d *desugaring) match(value, pattern, body syntax.Node) syntax.Node {
	return d.node(syntax.XMatch, "", value, d.node(syntax.SCase, "", pattern, d.none(), body))
}

// joined returns two lists behind one another, in new memory.
func joined(a, b []syntax.Node) []syntax.Node {
	return append(append(make([]syntax.Node, 0, len(a)+len(b)), a...), b...)
}

// with returns a node with another kid in a place.
func with(n syntax.Node, place int, kid syntax.Node) syntax.Node {
	n.Kids = joined(n.Kids, nil)
	n.Kids[place] = kid
	return n
}
