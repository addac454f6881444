package parser

// nested runs a rule for a type, an expression, a pattern or a statement, which
// are counted.
func nested[T any](p *parser, rule func() T) T {
	p.depth++
	result := rule()
	p.depth--
	return result
}

// separated reads one item at least, and further ones as long as there is a
// separator.
func separated[T any](item func() T, separator func() bool) []T {
	list := []T{item()}
	for separator() {
		list = append(list, item())
	}
	return list
}

// comma is the separator of most lists.
func (p *parser) comma() bool { return p.skipMark(",") }

// some reads items with commas between them, one at least, up to a mark that
// closes the list.
func some[T any](p *parser, item func() T, closing string) []T {
	list := separated(item, p.comma)
	p.needMark(closing)
	return list
}

// many reads items as some does, or none.
func many[T any](p *parser, item func() T, closing string) []T {
	if p.skipMark(closing) {
		return nil
	}
	return some(p, item, closing)
}

// enclosed reads items, a number of them at least, between the next token and
// the one that closes it. They are separated as statements are.
func enclosed[T any](p *parser, least int, item func() T) []T {
	end := p.pair[p.at]
	p.take()
	p.lines()
	var list []T
	for p.at != end || len(list) < least {
		list = append(list, item())
		if !p.lines() {
			break
		}
	}
	p.need(p.at == end)
	return list
}
