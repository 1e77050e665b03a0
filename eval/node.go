package eval

import (
	"slices"

	"bootjack/api"
	"bootjack/print"
)

// node is one of an expression, with what it is made of. Its names rise, and
// kids stand as they do; Kids tell nothing any more.
type node struct {
	api.Node
	module string
	kids   []*node
}

// Load makes a thunk of an expression; of one that is not right the error is
// told when it is forced (E1).
func (m *Machine) Load(module string, f []api.Node) *Thunk {
	if !print.Right(f) {
		return m.failing(api.ErrArg)
	}
	return m.thunk(link(module, f), nil)
}

// link copies an expression that is right, so that nothing of it is kept, and
// gives the whole.
func link(module string, f []api.Node) *node {
	l := make([]*node, len(f))
	for i, from := range f {
		l[i] = &node{Node: from, module: module}
		l[i].Names, l[i].Kids = slices.Sorted(slices.Values(from.Names)), nil
		l[i].kids = l[i].kidsOf(from, l)
	}
	return l[len(l)-1]
}

// kidsOf gives kids that have a name its place; the others stay where they are.
func (n *node) kidsOf(from api.Node, ahead []*node) []*node {
	kids := make([]*node, len(from.Kids))
	for i, k := range from.Kids {
		at := i
		if i < len(from.Names) {
			at, _ = slices.BinarySearch(n.Names, from.Names[i])
		}
		kids[at] = ahead[k]
	}
	return kids
}

// body is what a node has behind all else.
func (n *node) body() *node { return n.kids[len(n.kids)-1] }

func (m *Machine) thunk(n *node, s *scope) *Thunk {
	return &Thunk{find: func() *found { return m.evaluate(n, s) }}
}

// evaluate is under way from its step on: an error of that is told at the node.
func (m *Machine) evaluate(n *node, s *scope) *found {
	was := m.now
	m.now.module, m.now.at = n.module, n.At
	m.begin()
	f := m.meaning(n, s)
	m.now = was
	return f
}

func (m *Machine) meaning(n *node, s *scope) *found {
	switch n.Kind {
	case api.NInt:
		return ofInt(n.Int)
	case api.NFloat:
		return ofFloat(n.Float)
	case api.NString:
		return ofText(n.Text)
	case api.NName, api.NInherit:
		return m.force(m.lookUp(n.Text, s))
	case api.NList:
		return m.list(n, s)
	case api.NSet:
		return m.set(n, m.bound(n, s, s))
	case api.NRec:
		return m.set(n, m.within(n, s).items)
	case api.NLet:
		return m.evaluate(n.body(), m.within(n, s))
	case api.NSelect:
		return m.selected(n, s)
	case api.NHas:
		return ofBool(m.evaluate(n.kids[0], s).part(n.Text) != nil)
	case api.NCall:
		return m.applied(m.evaluate(n.kids[0], s), m.thunk(n.kids[1], s))
	case api.NLambda:
		return m.function(n, s)
	case api.NWith:
		return m.evaluate(n.body(), &scope{outer: s, with: m.thunk(n.kids[0], s)})
	case api.NIf:
		return m.chosen(n, s)
	case api.NAssert:
		return m.asserted(n, s)
	case api.NNot:
		return ofBool(!m.condition(n.kids[0], s))
	case api.NNeg:
		return m.negated(m.evaluate(n.kids[0], s))
	}
	return m.binary(n, s)
}
