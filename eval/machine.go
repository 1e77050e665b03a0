package eval

import "bootjack/api"

// Machine finds what thunks are, as long as it has fuel.
type Machine struct {
	fuel, steps int
	now         underWay
	builtins    map[string]*Thunk
}

// underWay tells how many nodes and built-ins are under way within one another,
// and where the node stands that began last.
type underWay struct {
	nest   int
	module string
	at     int
}

// New makes a machine, or none of fuel that may not be (E1).
func New(fuel int) *Machine {
	if fuel < 0 || fuel > api.MaxFuel {
		return nil
	}
	m := &Machine{fuel: fuel}
	m.builtins = m.allBuiltins()
	return m
}

// Steps tells how many were taken.
func (m *Machine) Steps() int { return m.steps }

// Step takes one, if there is fuel for it.
func (m *Machine) Step() error {
	if m.steps == m.fuel {
		return m.Fail(api.ErrFuel)
	}
	m.steps++
	return nil
}

// Fail makes an error that tells where the machine is.
func (m *Machine) Fail(e api.Errno) error {
	return &api.Trouble{Module: m.now.module, At: m.now.at, Err: e}
}

// stop is what a machine that gives up panics with; other panics are not its own.
type stop struct{ err error }

// giveUp answers something, so that it may stand where something is answered.
func (m *Machine) giveUp(e api.Errno) *found { panic(stop{m.Fail(e)}) }

// must gives up at an error that another layer told.
func (m *Machine) must(e api.Errno) {
	if e != api.OK {
		m.giveUp(e)
	}
}

// caught does what may give up, and tells the error then. What was under way
// ahead of it is under way again, for a Later may go on behind an error.
func (m *Machine) caught(do func()) (err error) {
	was := m.now
	defer func() {
		if r := recover(); r != nil {
			s, own := r.(stop)
			if !own {
				panic(r)
			}
			m.now, err = was, s.err
		}
	}()
	do()
	return nil
}

func (m *Machine) step() {
	if err := m.Step(); err != nil {
		panic(stop{err})
	}
}

// begin is what a node and a built-in begin with. Whoever calls it puts back
// what was under way at the end.
func (m *Machine) begin() {
	m.step()
	if m.now.nest == api.MaxNest {
		m.giveUp(api.ErrDeep)
	}
	m.now.nest++
}
