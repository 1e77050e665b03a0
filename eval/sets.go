package eval

import "bootjack/api"

func (m *Machine) names(x []*Thunk) *found {
	var l []*Thunk
	for _, name := range m.forceTo(api.VSet, x[0]).Names {
		l = append(l, known(ofText(name)))
	}
	return ofList(l)
}

func (m *Machine) values(x []*Thunk) *found { return ofList(m.forceTo(api.VSet, x[0]).Items) }

// partOf gives what a set has under a name, both of which are thunks.
func (m *Machine) partOf(name, set *Thunk) *Thunk {
	text := m.forceTo(api.VString, name).Text
	return m.forceTo(api.VSet, set).part(text)
}

func (m *Machine) has(x []*Thunk) *found { return ofBool(m.partOf(x[0], x[1]) != nil) }

func (m *Machine) get(x []*Thunk) *found {
	t := m.partOf(x[0], x[1])
	if t == nil {
		return m.giveUp(api.ErrAttr)
	}
	return m.force(t)
}

// marked gives a set that says what it is to whoever reads definitions. The
// names behind `_is` rise.
func marked(is string, names []string, items ...*Thunk) *found {
	return ofSet(append([]string{"_is"}, names...), append([]*Thunk{known(ofText(is))}, items...))
}

func ranked(is string, rank, v *Thunk) *found {
	return marked(is, []string{"rank", "value"}, rank, v)
}

func mkIf(x []*Thunk) *found { return marked("if", []string{"value", "when"}, x[1], x[0]) }

func mkOverride(x []*Thunk) *found { return ranked("override", x[0], x[1]) }

func mkOrder(x []*Thunk) *found { return ranked("order", x[0], x[1]) }

func mkForce(x []*Thunk) *found { return ranked("override", known(ofInt(50)), x[0]) }

func mkDefault(x []*Thunk) *found { return ranked("override", known(ofInt(1000)), x[0]) }

func mkMerge(x []*Thunk) *found { return marked("merge", []string{"values"}, x[0]) }

func (m *Machine) mkOption(x []*Thunk) *found {
	return m.over(m.forceTo(api.VSet, x[0]), marked("option", nil))
}
