package parse

import "bootjack/api"

func (p *parser) has() *part {
	x := p.call()
	if !p.is(api.TokSign, "?") {
		return x
	}
	at := p.pass().At
	return newPart(api.NHas, at, p.attribute(), x)
}

func (p *parser) call() *part {
	x := p.sel()
	for p.isAtom() {
		x = newPart(api.NCall, x.node.At, "", x, p.sel())
	}
	return x
}

func (p *parser) sel() *part {
	x := p.atom()
	for p.is(api.TokSign, ".") {
		at := p.pass().At
		x = newPart(api.NSelect, at, p.attribute(), x)
		if p.is(api.TokName, "or") {
			p.pass()
			x.kids = append(x.kids, p.level(p.sel))
		}
	}
	return x
}

// isAtom tells whether the next token is one that an atom begins with.
func (p *parser) isAtom() bool {
	switch p.next().Kind {
	case api.TokInt, api.TokFloat, api.TokString:
		return true
	case api.TokName:
		return p.isName() || p.is(api.TokName, "rec")
	}
	return p.is(api.TokSign, "(", "[", "{")
}

func (p *parser) atom() *part {
	switch {
	case !p.isAtom():
		panic(p.wrong())
	case p.is(api.TokSign, "("):
		return p.bracketed()
	case p.is(api.TokSign, "["):
		return p.level(p.list)
	case p.is(api.TokSign, "{"):
		return p.set(api.NSet, p.next().At)
	case p.is(api.TokName, "rec"):
		return p.set(api.NRec, p.pass().At)
	}
	return leaf(p.pass())
}

// leaf gives what one token says by itself.
func leaf(t api.Token) *part {
	switch t.Kind {
	case api.TokInt:
		return &part{node: api.Node{Kind: api.NInt, Int: t.Int, At: t.At}}
	case api.TokFloat:
		return &part{node: api.Node{Kind: api.NFloat, Float: t.Float, At: t.At}}
	case api.TokString:
		return newPart(api.NString, t.At, t.Text)
	}
	return newPart(api.NName, t.At, t.Text)
}

func (p *parser) bracketed() *part {
	p.need(api.TokSign, "(")
	x := p.expr()
	p.need(api.TokSign, ")")
	return x
}

func (p *parser) list() *part {
	x := newPart(api.NList, p.pass().At, "")
	for p.isAtom() {
		x.kids = append(x.kids, p.sel())
	}
	p.need(api.TokSign, "]")
	return x
}

func (p *parser) set(kind, at int) *part {
	x := newPart(kind, at, "")
	p.need(api.TokSign, "{")
	p.bindings(x)
	p.need(api.TokSign, "}")
	return x
}
