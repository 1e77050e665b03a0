package units

import "bootjack/api"

// Diff tells what is to stop, what stays, and what is to start, where one list
// of units takes the place of another (S2).
func Diff(old, fresh []api.Unit) ([]string, []string, []string) {
	c := compare(old, fresh)
	var stop, stay, start []string
	for i, u := range fromBehind(old) {
		if c.old[u.Name] == i && c.goes(u.Name) {
			stop = append(stop, u.Name)
		}
	}
	for i, u := range fresh {
		if c.fresh[u.Name] != i {
			continue
		}
		if c.goes(u.Name) {
			start = append(start, u.Name)
		} else {
			stay = append(stay, u.Name)
		}
	}
	return stop, stay, start
}

// change is two lists held against each other: where each name stands first in
// them, where in old those stand that require it, and whether it does not stay.
type change struct {
	old, fresh map[string]int
	requiring  map[string][]int
	gone       map[string]struct{}
}

func (c *change) goes(name string) bool {
	_, ok := c.gone[name]
	return ok
}

// compare begins with what is not in both lists, the same, and goes on with
// what requires that: all else stays, and there is no choice in which more
// would stay.
func compare(old, fresh []api.Unit) *change {
	c := &change{places(old), places(fresh), map[string][]int{}, map[string]struct{}{}}
	var work []string
	for i, u := range old {
		if c.old[u.Name] != i {
			continue
		}
		if j, ok := c.fresh[u.Name]; !ok || !same(u, fresh[j]) {
			work = append(work, u.Name)
			continue
		}
		for _, name := range u.Requires {
			c.requiring[name] = append(c.requiring[name], i)
		}
	}
	for _, u := range fresh {
		if _, ok := c.old[u.Name]; !ok {
			work = append(work, u.Name)
		}
	}
	c.drop(work, old)
	return c
}

// drop goes on from names that do not stay to those of old that require them.
func (c *change) drop(work []string, old []api.Unit) {
	for len(work) > 0 {
		name := work[len(work)-1]
		work = work[:len(work)-1]
		if c.goes(name) {
			continue
		}
		c.gone[name] = struct{}{}
		for _, i := range c.requiring[name] {
			work = append(work, old[i].Name)
		}
	}
}
