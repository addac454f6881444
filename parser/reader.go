package parser

import (
	"newel/api"
	"newel/syntax"
	"newel/tokens"
)

// maxNest is in how many others a type, expression, pattern or statement may be
// nested.
const maxNest = 100

// parser reads a list of tokens. Its methods are the rules of the grammar; one
// that cannot go on leaves by a panic.
type parser struct {
	list  []tokens.Token // it ends with a Stop
	pair  []int          // of each token that opens something, the index of the one that closes it
	at    int            // the next token
	depth int            // how many types, expressions, patterns and statements are open
	guard bool           // a guard is being read: a => at its end is that of its case
}

// pairs returns, for each token of a list that opens something, the index of
// the one that closes it. Lists with layout have one.
func pairs(list []tokens.Token) []int {
	pair := make([]int, len(list))
	var open []int
	for i, t := range list {
		switch {
		case opens(t):
			open = append(open, i)
		case closes(t):
			last := len(open) - 1
			pair[open[last]] = i
			open = open[:last]
		}
	}
	return pair
}

// opens reports whether a token opens a bracket or an indentation.
func opens(t tokens.Token) bool {
	switch t.Kind {
	case tokens.Indent:
		return true
	case tokens.Mark:
		switch t.Text {
		case "(", "[", "{", "'{", "${":
			return true
		}
	}
	return false
}

// closes reports whether a token closes a bracket or an indentation.
func closes(t tokens.Token) bool {
	switch t.Kind {
	case tokens.Outdent:
		return true
	case tokens.Mark:
		switch t.Text {
		case ")", "]", "}":
			return true
		}
	}
	return false
}

// breaks reports whether a token separates statements.
func breaks(t tokens.Token) bool {
	return t.Kind == tokens.Newline || isMark(t, ";")
}

func isMark(t tokens.Token, text string) bool { return t.Kind == tokens.Mark && t.Text == text }

func isKey(t tokens.Token, text string) bool { return t.Kind == tokens.Key && t.Text == text }

func isOp(t tokens.Token, text string) bool { return t.Kind == tokens.Op && t.Text == text }

// peek returns the next token.
func (p *parser) peek() tokens.Token { return p.list[p.at] }

// behind returns the token behind the next one; behind the last one it is the
// last one itself.
func (p *parser) behind() tokens.Token { return p.list[min(p.at+1, len(p.list)-1)] }

func (p *parser) mark(text string) bool { return isMark(p.peek(), text) }

func (p *parser) key(text string) bool { return isKey(p.peek(), text) }

func (p *parser) op(text string) bool { return isOp(p.peek(), text) }

// fail leaves at the next token, with which no rule goes on.
func (p *parser) fail() {
	panic(api.Fault{At: p.peek().At, Code: api.ErrSyntax})
}

// take reads the next token. The first one of what is nested too deeply is not
// read: that a rule goes on with it is known only here.
func (p *parser) take() tokens.Token {
	t := p.peek()
	if p.depth > maxNest+1 {
		panic(api.Fault{At: t.At, Code: api.ErrDepth})
	}
	p.at++
	return t
}

// need reads a token that has to be there, and returns its offset.
func (p *parser) need(is bool) int {
	if !is {
		p.fail()
	}
	return p.take().At
}

func (p *parser) needMark(text string) int { return p.need(p.mark(text)) }

func (p *parser) needKey(text string) int { return p.need(p.key(text)) }

// skip reads a token if it is there.
func (p *parser) skip(is bool) bool {
	if is {
		p.take()
	}
	return is
}

func (p *parser) skipMark(text string) bool { return p.skip(p.mark(text)) }

func (p *parser) skipKey(text string) bool { return p.skip(p.key(text)) }

// name reads a Name.
func (p *parser) name() tokens.Token {
	if p.peek().Kind != tokens.Name {
		p.fail()
	}
	return p.take()
}

// id reads a Name or an Op.
func (p *parser) id() tokens.Token {
	if k := p.peek().Kind; k != tokens.Name && k != tokens.Op {
		p.fail()
	}
	return p.take()
}

// lines reads what separates statements, if it is there.
func (p *parser) lines() bool {
	some := false
	for p.skip(breaks(p.peek())) {
		some = true
	}
	return some
}

// behindLines returns the token behind what separates statements.
func (p *parser) behindLines() tokens.Token {
	i := p.at
	for breaks(p.list[i]) {
		i++
	}
	return p.list[i]
}

// continued reads a keyword that may stand in a new line, if it is there.
func (p *parser) continued(key string) bool {
	if !isKey(p.behindLines(), key) {
		return false
	}
	p.lines()
	p.take()
	return true
}

// none is the node of what is left out at the next token; so is one of another
// kind without kids.
func (p *parser) none() syntax.Node { return p.left(syntax.SNone) }

func (p *parser) left(kind int) syntax.Node { return node(kind, p.peek().At) }

// node makes a node.
func node(kind, at int, kids ...syntax.Node) syntax.Node {
	return syntax.Node{Kind: kind, Kids: kids, At: at}
}

// named makes a node with a text.
func named(kind int, text string, at int, kids ...syntax.Node) syntax.Node {
	return syntax.Node{Kind: kind, Text: text, Kids: kids, At: at}
}
