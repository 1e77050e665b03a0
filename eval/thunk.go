package eval

import (
	"slices"

	"bootjack/api"
	"bootjack/value"
)

// Thunk is something whose value is found when it is needed. It has find till
// that is begun, and found from its end on; in between it has neither.
type Thunk struct {
	find  func() *found
	found *found
}

// Force tells a thunk's shape (E2).
func (m *Machine) Force(t *Thunk) (s Shape, err error) {
	err = m.caught(func() { s = m.force(t).told() })
	return s, err
}

// force forgets how a thunk is found as soon as that is begun: what it held on
// to may go, and one that needs itself is known by that.
func (m *Machine) force(t *Thunk) *found {
	if t.found != nil {
		return t.found
	}
	if t.find == nil {
		return m.giveUp(api.ErrLoop)
	}
	find := t.find
	t.find = nil
	t.found = find()
	return t.found
}

// forceTo gives up at something of another kind.
func (m *Machine) forceTo(kind int, t *Thunk) *found { return m.of(kind, m.force(t)) }

func (m *Machine) of(kind int, f *found) *found {
	if f.Kind != kind {
		return m.giveUp(api.ErrType)
	}
	return f
}

// Call makes a thunk of a function that is called with another one.
func (m *Machine) Call(f, x *Thunk) *Thunk {
	return &Thunk{find: func() *found { return m.applied(m.force(f), x) }}
}

func (m *Machine) applied(f *found, x *Thunk) *found { return m.of(api.VFunc, f).apply(x) }

// Put makes a thunk of a value; of one that may not be the error is told when
// it is forced.
func (m *Machine) Put(v api.Value) *Thunk {
	if !value.Right(v) || hasFunctions(v) {
		return m.failing(api.ErrArg)
	}
	return known(put(v))
}

func hasFunctions(v api.Value) bool {
	return v.Kind == api.VFunc || slices.ContainsFunc(v.Items, hasFunctions)
}

// put copies a value, so that nothing of it is kept.
func put(v api.Value) *found {
	f := ofValue(v)
	f.Names = slices.Clone(v.Names)
	for _, item := range v.Items {
		f.Items = append(f.Items, known(put(item)))
	}
	return f
}

// Set makes a thunk of a set; of names that may not be the error is told when it
// is forced.
func (m *Machine) Set(names []string, items []*Thunk) *Thunk {
	switch {
	case len(names) != len(items) || !areRising(names):
		return m.failing(api.ErrArg)
	case len(names) > api.MaxList:
		return m.failing(api.ErrLong)
	}
	return known(ofSet(slices.Clone(names), slices.Clone(items)))
}

func areRising(names []string) bool {
	for i, name := range names {
		if len(name) > api.MaxString || i > 0 && names[i-1] >= name {
			return false
		}
	}
	return true
}

// Later makes a thunk of what is said when it is needed. An error of that is
// told as it is said.
func (m *Machine) Later(do func() (*Thunk, error)) *Thunk {
	if do == nil {
		return m.failing(api.ErrArg)
	}
	return &Thunk{find: func() *found {
		t, err := do()
		if err != nil {
			panic(stop{err})
		}
		return m.force(t)
	}}
}

func (m *Machine) failing(e api.Errno) *Thunk {
	return &Thunk{find: func() *found { return m.giveUp(e) }}
}

func known(f *found) *Thunk { return &Thunk{found: f} }
