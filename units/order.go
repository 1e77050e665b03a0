package units

import (
	"math/bits"
	"slices"
	"strings"

	"bootjack/api"
)

// Order gives the units in the order in which they start, or the name of one
// that stands in the way (S1).
func Order(l []api.Unit) ([]api.Unit, string, api.Errno) {
	if len(l) > api.MaxUnits {
		return nil, "", api.ErrMany
	}
	if name, ok := twice(l); ok {
		return nil, name, api.ErrTwice
	}
	rising := slices.Clone(l)
	slices.SortFunc(rising, func(a, b api.Unit) int { return strings.Compare(a.Name, b.Name) })
	at := places(rising)
	if name, ok := lacking(rising, at); ok {
		return nil, name, api.ErrUnit
	}
	return started(rising, at)
}

// twice tells the first name that stands ahead already.
func twice(l []api.Unit) (string, bool) {
	at := places(l)
	for i, u := range l {
		if at[u.Name] != i {
			return u.Name, true
		}
	}
	return "", false
}

// lacking tells the first unit that requires one that there is not.
func lacking(l []api.Unit, at map[string]int) (string, bool) {
	for _, u := range l {
		for _, name := range u.Requires {
			if _, ok := at[name]; !ok {
				return u.Name, true
			}
		}
	}
	return "", false
}

// group is some of at most MaxUnits units: a bit for each, by its place.
type group uint32

func (g group) has(place int) bool { return g>>place&1 == 1 }

func (g group) first() int { return bits.TrailingZeros32(uint32(g)) }

// started takes units by rising names, each when it waits for none that is
// left: as they rise, the first one that may start has the least name.
func started(l []api.Unit, at map[string]int) ([]api.Unit, string, api.Errno) {
	waits := waiting(l, at)
	left := group(1)<<len(l) - 1
	out := make([]api.Unit, 0, len(l))
	for left != 0 {
		i, ok := ready(waits, left)
		if !ok {
			return nil, l[left.first()].Name, api.ErrCycle
		}
		out = append(out, copied(l[i]))
		left &^= 1 << i
	}
	return out, "", api.OK
}

// ready tells the first of those that are left that waits for none of them.
func ready(waits []group, left group) (int, bool) {
	for i, w := range waits {
		if left.has(i) && w&left == 0 {
			return i, true
		}
	}
	return 0, false
}

// waiting tells of each unit for which others it waits, itself perhaps among
// them. Of those after which it stands there may be some that there are not.
func waiting(l []api.Unit, at map[string]int) []group {
	out := make([]group, len(l))
	for i, u := range l {
		for _, names := range [][]string{u.Requires, u.After} {
			for _, name := range names {
				if j, ok := at[name]; ok {
					out[i] |= 1 << j
				}
			}
		}
	}
	return out
}
