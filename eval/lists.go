package eval

import "bootjack/api"

func (m *Machine) itemsOf(t *Thunk) []*Thunk { return m.forceTo(api.VList, t).Items }

// someOf gives up at an empty list.
func (m *Machine) someOf(t *Thunk) []*Thunk {
	l := m.itemsOf(t)
	if len(l) == 0 {
		m.giveUp(api.ErrEmpty)
	}
	return l
}

func (m *Machine) length(x []*Thunk) *found { return ofInt(int64(len(m.itemsOf(x[0])))) }

func (m *Machine) head(x []*Thunk) *found { return m.force(m.someOf(x[0])[0]) }

func (m *Machine) tail(x []*Thunk) *found { return ofList(m.someOf(x[0])[1:]) }

func (m *Machine) item(x []*Thunk) *found {
	l := m.itemsOf(x[0])
	n := m.forceTo(api.VInt, x[1]).Int
	if n < 0 || n >= int64(len(l)) {
		return m.giveUp(api.ErrEmpty)
	}
	return m.force(l[n])
}

func (m *Machine) mapped(x []*Thunk) *found {
	var l []*Thunk
	for _, t := range m.itemsOf(x[1]) {
		l = append(l, m.Call(x[0], t))
	}
	return ofList(l)
}

func (m *Machine) filtered(x []*Thunk) *found {
	var l []*Thunk
	for _, t := range m.itemsOf(x[1]) {
		if m.forceTo(api.VBool, m.Call(x[0], t)).isTrue() {
			l = append(l, t)
		}
	}
	return ofList(l)
}

// folded forces thunk by thunk, so that what is at the end is not nested as
// deep as the list is long.
func (m *Machine) folded(x []*Thunk) *found {
	there := x[1]
	for _, t := range m.itemsOf(x[2]) {
		there = m.Call(m.Call(x[0], there), t)
		m.force(there)
	}
	return m.force(there)
}

func (m *Machine) elem(x []*Thunk) *found {
	for _, t := range m.itemsOf(x[1]) {
		if m.equal(x[0], t) {
			return ofBool(true)
		}
	}
	return ofBool(false)
}
