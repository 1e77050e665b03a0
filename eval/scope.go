package eval

import "bootjack/api"

// scope is one of names, which rise, and their thunks; or one with a set. A nil
// one is that without names.
type scope struct {
	outer *scope
	names []string
	items []*Thunk
	with  *Thunk
}

// lookUp goes outwards twice: a name that stands in the text counts more than
// one that a set happens to have, and so does a built-in.
func (m *Machine) lookUp(name string, s *scope) *Thunk {
	for at := s; at != nil; at = at.outer {
		if t := pick(at.names, at.items, name); t != nil {
			return t
		}
	}
	if t := m.builtins[name]; t != nil {
		return t
	}
	for at := s; at != nil; at = at.outer {
		if at.with == nil {
			continue
		}
		if t := m.forceTo(api.VSet, at.with).part(name); t != nil {
			return t
		}
	}
	m.giveUp(api.ErrName)
	return nil
}

// within gives the scope of a node's names.
func (m *Machine) within(n *node, outer *scope) *scope {
	s := &scope{outer: outer, names: n.Names}
	s.items = m.bound(n, s, outer)
	return s
}

// bound gives a thunk for each of a node's names. What is inherited is known
// outside: within, it would be looked up as itself.
func (m *Machine) bound(n *node, inner, outer *scope) []*Thunk {
	items := make([]*Thunk, len(n.Names))
	for i := range items {
		s := inner
		if n.kids[i].Kind == api.NInherit {
			s = outer
		}
		items[i] = m.thunk(n.kids[i], s)
	}
	return items
}
