package parse

import "bootjack/api"

func (p *parser) expr() *part {
	return p.level(p.anyExpr)
}

func (p *parser) anyExpr() *part {
	switch {
	case p.isFunction():
		return p.function()
	case p.is(api.TokName, "let"):
		return p.let()
	case p.is(api.TokName, "with"):
		return p.headed(api.NWith)
	case p.is(api.TokName, "if"):
		return p.choice()
	case p.is(api.TokName, "assert"):
		return p.headed(api.NAssert)
	}
	return p.or()
}

// isFunction tells whether a function follows. Behind a name stands one more token at least, the end.
func (p *parser) isFunction() bool {
	if !p.isName() {
		return false
	}
	t := p.tokens[p.at+1]
	return t.Kind == api.TokSign && t.Text == ":"
}

func (p *parser) function() *part {
	name := p.pass()
	p.need(api.TokSign, ":")
	return newPart(api.NLambda, name.At, name.Text, p.expr())
}

func (p *parser) let() *part {
	x := newPart(api.NLet, p.pass().At, "")
	p.bindings(x)
	p.need(api.TokName, "in")
	x.kids = append(x.kids, p.expr())
	return x
}

// headed reads a keyword, what it says of the body, and the body.
func (p *parser) headed(kind int) *part {
	at := p.pass().At
	head := p.expr()
	p.need(api.TokSign, ";")
	return newPart(kind, at, "", head, p.expr())
}

func (p *parser) choice() *part {
	at := p.pass().At
	condition := p.expr()
	p.need(api.TokName, "then")
	one := p.expr()
	p.need(api.TokName, "else")
	return newPart(api.NIf, at, "", condition, one, p.expr())
}
