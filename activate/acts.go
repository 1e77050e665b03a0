package activate

import (
	"slices"

	"bootjack/api"
)

// Acts gives the steps that lead from what a machine is to a system; none, if
// the system may not be (V2). What is stopped and taken away goes ahead, so
// that there is room for what comes.
func Acts(now api.Observed, s api.System) []api.Act {
	if !Right(s) {
		return nil
	}
	var l []api.Act
	step := func(kind int, name string) { l = append(l, api.Act{Kind: kind, Name: name}) }
	steps := func(kind int, names []string) {
		for _, name := range names {
			step(kind, name)
		}
	}
	put := func(f api.Entry) {
		l = append(l, api.Act{Kind: api.StepFile, Name: f.Path, File: copiedFile(f)})
	}
	start := func(u api.Unit) {
		l = append(l, api.Act{Kind: api.StepStart, Name: u.Name, Unit: copiedUnit(u)})
	}
	k := alike(now.Running, s.Units)
	for _, u := range slices.Backward(now.Running[k:]) {
		step(api.StepStop, u.Name)
	}
	steps(api.StepRemove, without(paths(now.Files), paths(s.Files)))
	steps(api.StepDrop, without(now.Users, s.Users))
	for _, f := range s.Files {
		if !slices.ContainsFunc(now.Files, func(x api.Entry) bool { return sameFile(x, f) }) {
			put(f)
		}
	}
	steps(api.StepUser, without(s.Users, now.Users))
	for _, u := range s.Units[k:] {
		start(u)
	}
	return l
}

// alike tells how many units at the beginnings of two lists are the same, one
// by one.
func alike(a, b []api.Unit) int {
	k := 0
	for k < len(a) && k < len(b) && sameUnit(a[k], b[k]) {
		k++
	}
	return k
}

func paths(l []api.Entry) []string {
	out := make([]string, 0, len(l))
	for _, f := range l {
		out = append(out, f.Path)
	}
	return out
}

// without gives those of l that others have not, rising: what was observed was
// perhaps written by hand, and does not rise by itself.
func without(l, others []string) []string {
	var out []string
	for _, x := range l {
		if !slices.Contains(others, x) {
			out = append(out, x)
		}
	}
	slices.Sort(out)
	return out
}
