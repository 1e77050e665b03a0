package eval

import (
	"bootjack/api"
	"bootjack/value"
)

func (m *Machine) list(n *node, s *scope) *found {
	m.atMost(api.MaxList, len(n.kids))
	items := make([]*Thunk, len(n.kids))
	for i, k := range n.kids {
		items[i] = m.thunk(k, s)
	}
	return ofList(items)
}

// atMost gives up, if there are more.
func (m *Machine) atMost(most, n int) {
	if n > most {
		m.giveUp(api.ErrLong)
	}
}

// set takes the thunks that are known under the names, where there is a scope of
// them: each is to be found but once.
func (m *Machine) set(n *node, items []*Thunk) *found {
	m.atMost(api.MaxList, len(items))
	return ofSet(n.Names, items)
}

func (m *Machine) selected(n *node, s *scope) *found {
	f := m.evaluate(n.kids[0], s)
	if t := f.part(n.Text); t != nil {
		return m.force(t)
	}
	if len(n.kids) == 2 {
		return m.evaluate(n.kids[1], s)
	}
	m.of(api.VSet, f)
	return m.giveUp(api.ErrAttr)
}

func (m *Machine) function(n *node, outer *scope) *found {
	names := []string{n.Text}
	return ofFunction(func(x *Thunk) *found {
		return m.evaluate(n.body(), &scope{outer: outer, names: names, items: []*Thunk{x}})
	})
}

func (m *Machine) condition(n *node, s *scope) bool {
	return m.of(api.VBool, m.evaluate(n, s)).isTrue()
}

func (m *Machine) chosen(n *node, s *scope) *found {
	if m.condition(n.kids[0], s) {
		return m.evaluate(n.kids[1], s)
	}
	return m.evaluate(n.kids[2], s)
}

func (m *Machine) asserted(n *node, s *scope) *found {
	if !m.condition(n.kids[0], s) {
		return m.giveUp(api.ErrAssert)
	}
	return m.evaluate(n.body(), s)
}

func (m *Machine) negated(f *found) *found {
	v, e := value.Negate(f.value())
	m.must(e)
	return ofValue(v)
}
