package boot

import (
	"slices"

	"bootjack/api"
)

// Add gives the menu with one more generation, and its number, which no other
// one ever had (X3, X5).
func Add(m api.Menu, path string) (api.Menu, int, api.Errno) {
	switch {
	case !Right(m):
		return api.Menu{}, 0, api.ErrMenu
	case !isStorePath(path):
		return api.Menu{}, 0, api.ErrStore
	case len(m.Gens) == api.MaxGens || m.Last == maxLast:
		return api.Menu{}, 0, api.ErrFull
	}
	m.Last++
	m.Gens = append(slices.Clone(m.Gens), api.Generation{Number: m.Last, Path: path})
	return m, m.Last, api.OK
}

// Remove gives the menu without a generation that it may do without. Last
// stays, so that the number is not given again (X3, X5).
func Remove(m api.Menu, n int) (api.Menu, api.Errno) {
	if e := asked(m, n); e != api.OK {
		return api.Menu{}, e
	}
	for _, kept := range choices(&m) {
		if *kept == n {
			return api.Menu{}, api.ErrKept
		}
	}
	m.Gens = slices.DeleteFunc(slices.Clone(m.Gens), func(g api.Generation) bool { return g.Number == n })
	return m, api.OK
}

// Default gives the menu with this default, and nothing else chosen (X3).
func Default(m api.Menu, n int) (api.Menu, api.Errno) {
	if e := asked(m, n); e != api.OK {
		return api.Menu{}, e
	}
	m.Gens = slices.Clone(m.Gens)
	m.Default, m.Next, m.Trial = n, 0, 0
	return m, api.OK
}

// Next gives the menu with this generation for the next boot alone (X3).
func Next(m api.Menu, n int) (api.Menu, api.Errno) {
	if e := asked(m, n); e != api.OK {
		return api.Menu{}, e
	}
	m.Gens = slices.Clone(m.Gens)
	m.Next = n
	return m, api.OK
}

// asked tells what is wrong with asking a menu for a generation.
func asked(m api.Menu, n int) api.Errno {
	switch {
	case !Right(m):
		return api.ErrMenu
	case !has(m, n):
		return api.ErrGen
	}
	return api.OK
}

// Before gives the greatest number below n that a generation has. The numbers
// of a menu that may not be need not rise, nor be above 0 (X3).
func Before(m api.Menu, n int) (int, bool) {
	greatest, found := 0, false
	for _, g := range m.Gens {
		if g.Number < n && (!found || g.Number > greatest) {
			greatest, found = g.Number, true
		}
	}
	return greatest, found
}

// Load does what a boot loader does: it gives the menu behind a boot, the
// generation to run, and whether that runs on trial. A trial is forgotten as
// it is loaded (X4, X5).
func Load(m api.Menu) (api.Menu, int, bool) {
	m.Gens = slices.Clone(m.Gens)
	m.Trial, m.Next = m.Next, 0
	if m.Trial == 0 {
		return m, m.Default, false
	}
	return m, m.Trial, true
}
