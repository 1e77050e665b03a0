package parse

import "bootjack/api"

func (p *parser) or() *part {
	return p.fromLeft(p.and, "||")
}

func (p *parser) and() *part {
	return p.fromLeft(p.eq, "&&")
}

func (p *parser) eq() *part {
	return p.pair(p.cmp, p.cmp, "==", "!=")
}

func (p *parser) cmp() *part {
	return p.pair(p.upd, p.upd, "<", "<=", ">", ">=")
}

func (p *parser) upd() *part {
	return p.fromRight(p.not, p.upd, "//")
}

func (p *parser) not() *part {
	return p.prefixed(api.NNot, p.not, p.add, "!")
}

func (p *parser) add() *part {
	return p.fromLeft(p.mul, "+", "-")
}

func (p *parser) mul() *part {
	return p.fromLeft(p.cat, "*", "/")
}

func (p *parser) cat() *part {
	return p.fromRight(p.neg, p.cat, "++")
}

func (p *parser) neg() *part {
	return p.prefixed(api.NNeg, p.neg, p.has, "-")
}

// fromLeft reads a row that goes on as often as one of its signs follows.
func (p *parser) fromLeft(above func() *part, signs ...string) *part {
	x := above()
	for p.is(api.TokSign, signs...) {
		x = p.joined(x, above)
	}
	return x
}

// fromRight reads a row whose right part is of the same row, and a level.
func (p *parser) fromRight(above, same func() *part, signs ...string) *part {
	return p.pair(above, func() *part { return p.level(same) }, signs...)
}

// pair reads a row in which one of its signs stands once at most.
func (p *parser) pair(left, right func() *part, signs ...string) *part {
	x := left()
	if p.is(api.TokSign, signs...) {
		x = p.joined(x, right)
	}
	return x
}

// joined reads a sign and what stands right of it.
func (p *parser) joined(left *part, right func() *part) *part {
	sign := p.pass()
	return newPart(api.NBinary, sign.At, sign.Text, left, right())
}

// prefixed reads a row that has a sign ahead of the same row, which is a level; or the row above.
func (p *parser) prefixed(kind int, same, above func() *part, signs ...string) *part {
	if !p.is(api.TokSign, signs...) {
		return above()
	}
	return p.level(func() *part {
		at := p.pass().At
		return newPart(kind, at, "", same())
	})
}
