package parse

import (
	"slices"

	"bootjack/api"
)

// parser goes through tokens; the last of them is the end, which is never passed.
type parser struct {
	tokens []api.Token
	at     int // which of them is next
	levels int // how many are being read, each within the one ahead
}

func (p *parser) next() api.Token {
	return p.tokens[p.at]
}

// pass goes past the next token, and gives it.
func (p *parser) pass() api.Token {
	t := p.next()
	p.at++
	return t
}

// wrong tells what is wrong with the next token, where another one must stand.
func (p *parser) wrong() *api.Fault {
	t := p.next()
	if t.Kind == api.TokEnd {
		return fault(t.At, api.ErrShort)
	}
	return fault(t.At, api.ErrWord)
}

// is tells whether the next token is of a kind, and has one of those texts. The kind counts, for a string may have the text of a sign or a keyword.
func (p *parser) is(kind int, texts ...string) bool {
	t := p.next()
	return t.Kind == kind && slices.Contains(texts, t.Text)
}

// need goes past a token that must stand there.
func (p *parser) need(kind int, text string) {
	if !p.is(kind, text) {
		panic(p.wrong())
	}
	p.pass()
}

// level reads what is a level. It is counted ahead of its first token, so that one that is too deep is told as that, whatever the token is.
func (p *parser) level(read func() *part) *part {
	if p.levels == api.MaxDeep {
		panic(fault(p.next().At, api.ErrDeep))
	}
	p.levels++
	x := read()
	p.levels--
	return x
}

func keyword(text string) bool {
	switch text {
	case "let", "in", "rec", "with", "if", "then", "else", "inherit", "assert", "or":
		return true
	}
	return false
}

func (p *parser) isName() bool {
	t := p.next()
	return t.Kind == api.TokName && !keyword(t.Text)
}

func (p *parser) isAttribute() bool {
	return p.isName() || p.next().Kind == api.TokString
}

// attribute reads an attribute's name.
func (p *parser) attribute() string {
	if !p.isAttribute() {
		panic(p.wrong())
	}
	return p.pass().Text
}
