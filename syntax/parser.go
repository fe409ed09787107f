package syntax

import (
	"keystone/api"
	"keystone/lexis"
)

// parser goes through a text's tokens from the left, and never back.
type parser struct {
	tokens []api.Token // those that are still ahead
	end    int         // of the text, where a token stands that is not there
}

// fault is what is thrown at a token by which the text is no module.
type fault struct {
	at  int
	why api.Errno
}

// look tells the token that stands next; behind the last one, one of no kind and without a text.
func (p *parser) look() api.Token {
	if len(p.tokens) == 0 {
		return api.Token{At: p.end}
	}
	return p.tokens[0]
}

// next goes on behind a token that has been looked at.
func (p *parser) next() api.Token {
	t := p.tokens[0]
	p.tokens = p.tokens[1:]
	return t
}

// refuse gives up at the token that stands next.
func (p *parser) refuse() {
	panic(fault{p.look().At, api.ErrSyntax})
}

// is tells whether a word or a sign stands next: a text alone says which, as no word is a sign, and other tokens have none.
func (p *parser) is(text string) bool {
	return p.look().Text == text
}

// has goes on behind a word or a sign, if it stands next.
func (p *parser) has(text string) bool {
	if !p.is(text) {
		return false
	}
	p.next()
	return true
}

// must goes on behind a word or a sign that must stand next.
func (p *parser) must(text string) {
	if !p.has(text) {
		p.refuse()
	}
}

// name reads a name that must stand next.
func (p *parser) name() string {
	t := p.look()
	if t.Kind != api.TName || !lexis.Name(t.Text) {
		p.refuse()
	}
	return p.next().Text
}

// names reads one name or more.
func (p *parser) names() []string {
	l := []string{p.name()}
	for p.has(",") {
		l = append(l, p.name())
	}
	return l
}

// within gives up at a statement, a term or an operand that begins too deep. Where none begins, as the text ends, that is told later on as what it is.
func (p *parser) within(depth int) {
	if depth > api.MaxDepth && len(p.tokens) > 0 {
		panic(fault{p.look().At, api.ErrDeep})
	}
}

// nothingMore gives up at a token behind all that should stand there.
func (p *parser) nothingMore() {
	if len(p.tokens) > 0 {
		p.refuse()
	}
}
