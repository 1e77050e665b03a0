package eval

import (
	"slices"

	"bootjack/api"
	"bootjack/value"
)

func (m *Machine) binary(n *node, s *scope) *found {
	switch n.Text {
	case "&&":
		return ofBool(m.condition(n.kids[0], s) && m.condition(n.kids[1], s))
	case "||":
		return ofBool(m.condition(n.kids[0], s) || m.condition(n.kids[1], s))
	}
	left := m.evaluate(n.kids[0], s)
	return m.joined(n.Text, left, m.evaluate(n.kids[1], s))
}

func (m *Machine) joined(sign string, a, b *found) *found {
	switch sign {
	case "++":
		return m.behind(m.of(api.VList, a), m.of(api.VList, b))
	case "//":
		return m.over(m.of(api.VSet, a), m.of(api.VSet, b))
	case "==":
		return ofBool(m.equal(known(a), known(b)))
	case "!=":
		return ofBool(!m.equal(known(a), known(b)))
	case "<":
		return ofBool(m.less(a, b))
	case ">":
		return ofBool(m.less(b, a))
	case "<=":
		return ofBool(m.less(a, b) || m.same(a, b))
	case ">=":
		return ofBool(m.less(b, a) || m.same(a, b))
	}
	v, e := value.Reckon(sign, a.value(), b.value())
	m.must(e)
	return ofValue(v)
}

func (m *Machine) behind(a, b *found) *found {
	m.atMost(api.MaxList, len(a.Items)+len(b.Items))
	return ofList(slices.Concat(a.Items, b.Items))
}

// over puts a set over another one.
func (m *Machine) over(under, upper *found) *found {
	names := slices.Concat(under.Names, upper.Names)
	slices.Sort(names)
	names = slices.Compact(names)
	m.atMost(api.MaxList, len(names))
	items := make([]*Thunk, len(names))
	for i, name := range names {
		if items[i] = upper.part(name); items[i] == nil {
			items[i] = under.part(name)
		}
	}
	return ofSet(names, items)
}

func (m *Machine) less(a, b *found) bool {
	is, e := value.Less(a.value(), b.value())
	m.must(e)
	return is
}

// same takes two without parts, or of unlike kinds.
func (m *Machine) same(a, b *found) bool {
	is, e := value.Equal(a.value(), b.value())
	m.must(e)
	return is
}

// equal compares two things.
func (m *Machine) equal(a, b *Thunk) bool {
	m.step()
	x := m.force(a)
	y := m.force(b)
	if x.Kind == y.Kind && (x.Kind == api.VList || x.Kind == api.VSet) {
		return m.equalParts(x, y)
	}
	return m.same(x, y)
}

// equalParts forces no part of what can't be equal.
func (m *Machine) equalParts(x, y *found) bool {
	if len(x.Items) != len(y.Items) || !slices.Equal(x.Names, y.Names) {
		return false
	}
	for i := range x.Items {
		if !m.equal(x.Items[i], y.Items[i]) {
			return false
		}
	}
	return true
}
