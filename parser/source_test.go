package parser

import (
	"strings"

	"newel/syntax"
)

// A source is a text that is not yet written: a list of items, and the tree
// that is expected, whose At are indices of items. It is written with braces or
// by indentation, with semicolons or in lines.
type source struct {
	dice  *dice
	items []item
	deep  int // how deep what is being made may still be nested
}

const (
	word    = iota // a token
	gap            // may be written as what separates statements
	sep            // separates statements
	open           // opens a block
	bodied         // opens the body of a class
	opened         // opens cases or statements of which one at least follows
	shut           // closes what one of these opened
	written        // as a word that opens or closes a bracket
)

type item struct {
	kind int
	pre  string // in front of the token
	text string
	glue bool // nothing is written in front of it
	mate int  // of what opens, the index of what closes it
}

func (s *source) next() int { return len(s.items) }

func (s *source) put(i item) int {
	s.items = append(s.items, i)
	return len(s.items) - 1
}

// word adds tokens; the result is the index of the first one.
func (s *source) word(texts ...string) int {
	at := s.next()
	for _, t := range texts {
		s.put(item{text: t})
	}
	return at
}

// block adds what opens and closes a block, and what is in between.
func (s *source) block(kind int, inner func()) int {
	at := s.put(item{kind: kind, text: "{"})
	inner()
	end := s.put(item{kind: shut, text: "}"})
	s.items[at].mate = end
	return at
}

// renderer writes the items of a source.
type renderer struct {
	items    []item
	dice     *dice
	indented bool // blocks are written by indentation where this is possible
	comments bool
	text     strings.Builder
	column   int
	offsets  []int
	regions  []region
	margin   int  // of the line
	fresh    bool // the next token begins a line
	waiting  []int
}

type region struct {
	kind  int // 0: lines mean nothing; 1: a brace; 2: an indentation
	width int
	shut  int // the index of the item that closes it
}

// render returns the text, and for each item the offset of its token, or of the
// one behind it.
func render(items []item, d *dice, indented, comments bool) (string, []int) {
	r := &renderer{items: items, dice: d, indented: indented, comments: comments, offsets: make([]int, len(items)+1)}
	r.regions = []region{{kind: 2, shut: -1}}
	end := 0
	for i := range items {
		if r.item(i) {
			end = r.offsets[i] + 1
		}
	}
	for _, w := range append(r.waiting, len(items)) {
		r.offsets[w] = end
	}
	return r.text.String(), r.offsets
}

func (r *renderer) top() region { return r.regions[len(r.regions)-1] }

func (r *renderer) pop() { r.regions = r.regions[:len(r.regions)-1] }

// item reports whether it wrote a token.
func (r *renderer) item(i int) bool {
	it := r.items[i]
	switch it.kind {
	case gap:
		if r.fresh || r.dice.roll(2) == 0 || r.top().kind == 0 && r.dice.roll(2) == 0 {
			return r.wait(i)
		}
		return r.token(i, ";")
	case sep:
		if r.fresh || r.mayBreak(i) && (r.indented || r.dice.roll(2) == 0) {
			r.fresh = true
			return r.wait(i)
		}
		return r.token(i, ";")
	case open, bodied, opened:
		return r.open(i)
	case shut:
		if r.top().kind == 2 {
			r.pop()
			r.fresh = true
			return r.wait(i)
		}
		r.pop()
		return r.token(i, "}")
	}
	r.token(i, it.text)
	switch it.text {
	case "(", "[":
		r.regions = append(r.regions, region{})
	case "${", "'{":
		r.regions = append(r.regions, region{kind: 1, width: r.margin})
	case ")", "]", "}":
		r.pop()
	}
	return true
}

// wait leaves the offset of an item to the next token.
func (r *renderer) wait(i int) bool {
	r.waiting = append(r.waiting, i)
	return false
}

func (r *renderer) open(i int) bool {
	if r.indented && r.mayIndent(i) {
		if r.items[i].kind == bodied {
			r.token(i, ":")
		} else {
			r.wait(i)
		}
		r.regions = append(r.regions, region{kind: 2, width: r.top().width + 1 + r.dice.roll(3)})
		r.fresh = true
		return r.items[i].kind == bodied
	}
	r.token(i, "{")
	r.regions = append(r.regions, region{kind: 1, width: r.margin})
	return true
}

// mayIndent reports whether a block may be written by indentation: lines mean
// something, an opener stands in front, and what stands behind it may begin a
// line.
func (r *renderer) mayIndent(i int) bool {
	it := r.items[i]
	if i == 0 || r.top().kind == 0 || r.fresh || it.mate == i+1 || unfinished(r.items[it.mate-1]) {
		return false
	}
	if it.kind != bodied && !strings.Contains(" = => <- then else do match try catch finally yield return throw ", " "+r.items[i-1].text+" ") {
		return false
	}
	if first := r.items[i+1]; first.kind != word || isOpText(first.text) {
		return false
	}
	if it.mate+1 == len(r.items) {
		return true
	}
	switch r.items[it.mate+1].kind {
	case shut:
		return true
	case sep, gap:
		return it.mate+2 < len(r.items) && !isOpText(r.items[it.mate+2].text)
	}
	return false
}

// mayBreak reports whether a line may end in place of the separator i.
func (r *renderer) mayBreak(i int) bool {
	if r.top().kind == 0 || i == 0 || i+1 == len(r.items) {
		return false
	}
	return !unfinished(r.items[i-1]) && r.items[i-1].kind != gap && r.items[i-1].kind != sep &&
		(r.items[i+1].kind == word || r.items[i+1].kind == open) && !isOpText(r.items[i+1].text)
}

func isOpText(text string) bool { return text != "" && strings.Trim(text, "+-*/%<>=!&|^~:?") == "" }

// unfinished reports whether no line may end behind an item.
func unfinished(i item) bool {
	return isOpText(i.text) || i.text == "type" || i.text == "val"
}

// token writes a token.
func (r *renderer) token(i int, text string) bool {
	it := r.items[i]
	switch {
	case r.fresh:
		r.margin = r.top().width
		if r.top().kind == 1 {
			r.margin = r.dice.roll(r.top().width + 1)
		}
		if r.text.Len() > 0 {
			r.text.WriteString("\n")
		}
		r.text.WriteString(strings.Repeat(" ", r.margin))
		r.fresh = false
	case it.glue || r.text.Len() == 0:
	case r.comments && r.dice.roll(4) == 0:
		r.text.WriteString(" /* a /* ; */ */ ")
	default:
		r.text.WriteString(" ")
	}
	r.text.WriteString(it.pre)
	r.offsets[i] = r.text.Len()
	for _, w := range r.waiting {
		r.offsets[w] = r.text.Len()
	}
	r.waiting = nil
	r.text.WriteString(text)
	return true
}

// placed returns a tree in which each At, the index of an item, is its offset.
func placed(n syntax.Node, offsets []int) syntax.Node {
	n.At = offsets[n.At]
	kids := make([]syntax.Node, len(n.Kids))
	for i := range n.Kids {
		kids[i] = placed(n.Kids[i], offsets)
	}
	n.Kids = kids
	return n
}
