package types

import (
	"slices"

	"bootjack/api"
)

// mergeUnits gives all names of a unit, rising, whichever were left out.
func mergeUnits(l []api.Value) (api.Value, api.Errno) {
	unit := api.Value{Kind: api.VSet}
	for _, name := range []string{"after", "requires", "start"} {
		v, e := mergePart(name, under(name, l))
		if e != api.OK {
			return api.Value{}, e
		}
		unit.Names, unit.Items = append(unit.Names, name), append(unit.Items, v)
	}
	return unit, api.OK
}

// under gives what stands under a name in those sets that have it.
func under(name string, l []api.Value) []api.Value {
	var said []api.Value
	for _, v := range l {
		if i := slices.Index(v.Names, name); i >= 0 {
			said = append(said, v.Items[i])
		}
	}
	return said
}

func mergePart(name string, said []api.Value) (api.Value, api.Errno) {
	switch {
	case name != "start":
		return boundedList(once(allItems(said)))
	case len(said) == 0:
		return textOf(""), api.OK
	}
	return mergeEqual(said)
}

// once gives each text where it came first.
func once(texts []api.Value) []api.Value {
	times := map[string]int{}
	var l []api.Value
	for _, v := range texts {
		times[v.Text]++
		if times[v.Text] == 1 {
			l = append(l, textOf(v.Text))
		}
	}
	return l
}
