package machine

import (
	"slices"

	"bootjack/api"
	"bootjack/dirs"
)

// mostStart is how many bytes a unit's Start may have.
const mostStart = 120

// work is what is done on a machine: the units that run, in the order in which
// they were started, and which of the next tries fail.
type work struct {
	running []api.Unit
	plan    []bool
}

// slot tells where the unit of a name runs; -1, if none does.
func (w *work) slot(name string) int {
	return slices.IndexFunc(w.running, func(u api.Unit) bool { return u.Name == name })
}

// fails is a try: it takes what the plan says next.
func (w *work) fails() bool {
	if len(w.plan) == 0 {
		return false
	}
	next := w.plan[0]
	w.plan = w.plan[1:]
	return next
}

// stop does not ask who requires the unit.
func (w *work) stop(name string) api.Errno {
	k := w.slot(name)
	switch {
	case k < 0:
		return api.OK
	case w.fails():
		return api.ErrService
	}
	w.running = slices.Delete(w.running, k, k+1)
	return api.OK
}

// start asks all that must hold also of a unit that runs: what it requires
// may have been stopped.
func (w *work) start(name string, u api.Unit) api.Errno {
	k := w.slot(name)
	switch {
	case name != u.Name, !mayBe(u), !w.mayStand(u, k):
		return api.ErrStep
	case k >= 0:
		return api.OK
	case w.fails():
		return api.ErrService
	}
	w.running = append(w.running, copiedUnit(u))
	return api.OK
}

// mayStand tells whether the units that run let a unit be among them: k is
// where one of its name runs.
func (w *work) mayStand(u api.Unit, k int) bool {
	if k < 0 && len(w.running) == api.MaxUnits || k >= 0 && !same(w.running[k], u) {
		return false
	}
	return !slices.ContainsFunc(u.Requires, func(name string) bool { return w.slot(name) < 0 })
}

// runningNow shares no list with the units that are kept.
func (w *work) runningNow() []api.Unit {
	l := make([]api.Unit, 0, len(w.running))
	for _, u := range w.running {
		l = append(l, copiedUnit(u))
	}
	return l
}

// mayBe tells whether a unit may be, whatever runs.
func mayBe(u api.Unit) bool {
	return dirs.Name(u.Name) && mayStart(u.Start) && areNames(u.Requires) && areNames(u.After)
}

func mayStart(s string) bool {
	if len(s) == 0 || len(s) > mostStart {
		return false
	}
	for k := range len(s) {
		if s[k] < ' ' || s[k] > '~' {
			return false
		}
	}
	return true
}

func areNames(l []string) bool {
	return !slices.ContainsFunc(l, func(s string) bool { return !dirs.Name(s) })
}

func same(a, b api.Unit) bool {
	return a.Name == b.Name && a.Start == b.Start && slices.Equal(a.Requires, b.Requires) && slices.Equal(a.After, b.After)
}

func copiedUnit(u api.Unit) api.Unit {
	u.Requires, u.After = slices.Clone(u.Requires), slices.Clone(u.After)
	return u
}
