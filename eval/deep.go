package eval

import (
	"slices"

	"bootjack/api"
)

// Deep tells the whole value of a thunk (E3).
func (m *Machine) Deep(t *Thunk) (v api.Value, err error) {
	err = m.caught(func() { v = m.deep(t, api.MaxDeep) })
	return v, err
}

// deep has room for so many lists and sets within one another.
func (m *Machine) deep(t *Thunk, room int) api.Value {
	m.step()
	f := m.force(t)
	v := f.value()
	if f.Kind != api.VList && f.Kind != api.VSet {
		return v
	}
	if room == 0 {
		m.giveUp(api.ErrDeep)
	}
	v.Names = slices.Clone(f.Names)
	for _, item := range f.Items {
		v.Items = append(v.Items, m.deep(item, room-1))
	}
	return v
}
