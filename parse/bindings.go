package parse

import (
	"slices"

	"bootjack/api"
)

// bindings reads as many as follow into a set, or a `let`.
func (p *parser) bindings(set *part) {
	for {
		switch {
		case p.is(api.TokName, "inherit"):
			p.inherit(set)
		case p.isAttribute():
			p.binding(set)
		default:
			return
		}
	}
}

func (p *parser) inherit(set *part) {
	p.need(api.TokName, "inherit")
	for p.isName() {
		t := p.pass()
		set.mustLack(t.Text, t.At)
		set.bind(t.Text, newPart(api.NInherit, t.At, t.Text))
	}
	p.need(api.TokSign, ";")
}

// binding reads a path and its value. A name that stands twice is told ahead of the value, which may be wrong, too.
func (p *parser) binding(set *part) {
	at := p.next().At
	path := p.path()
	p.need(api.TokSign, "=")
	last := len(path) - 1
	for _, name := range path[:last] {
		set = set.through(name, at)
	}
	set.mustLack(path[last], at)
	value := p.expr()
	p.need(api.TokSign, ";")
	set.bind(path[last], value)
}

func (p *parser) path() []string {
	l := []string{p.attribute()}
	for p.is(api.TokSign, ".") {
		p.pass()
		l = append(l, p.attribute())
	}
	return l
}

// through gives the set that stands at a name on a path's way, and makes it, if nothing is there. at is where the path's binding begins.
func (x *part) through(name string, at int) *part {
	i := slices.Index(x.node.Names, name)
	if i < 0 {
		inner := newPart(api.NSet, at, "")
		inner.byPaths = true
		x.bind(name, inner)
		return inner
	}
	if !x.kids[i].byPaths {
		panic(fault(at, api.ErrTwice))
	}
	return x.kids[i]
}

// mustLack gives up at a place, if a name is there already.
func (x *part) mustLack(name string, at int) {
	if slices.Contains(x.node.Names, name) {
		panic(fault(at, api.ErrTwice))
	}
}

func (x *part) bind(name string, value *part) {
	x.node.Names = append(x.node.Names, name)
	x.kids = append(x.kids, value)
}
