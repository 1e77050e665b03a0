package types

import (
	"cmp"
	"maps"
	"slices"
	"strings"

	"bootjack/api"
	"bootjack/value"
)

// Merge tells the value that definitions make together (T3).
func Merge(t string, defs []api.Def) (api.Value, api.Errno) {
	k := read(t)
	if k == nil || !allRight(defs) {
		return api.Value{}, api.ErrArg
	}
	if len(defs) == 0 {
		return api.Value{}, api.ErrUnset
	}
	l := counting(defs)
	if !k.takesAll(l) {
		return api.Value{}, api.ErrType
	}
	return k.merge(l)
}

func allRight(defs []api.Def) bool {
	for _, d := range defs {
		if !value.Right(d.Value) {
			return false
		}
	}
	return true
}

// counting gives the values of the definitions that count, in their order.
func counting(defs []api.Def) []api.Value {
	least := slices.MinFunc(defs, byPriority).Priority
	var first []api.Def
	for _, d := range defs {
		if d.Priority == least {
			first = append(first, d)
		}
	}
	slices.SortStableFunc(first, byOrder)
	var l []api.Value
	for _, d := range first {
		l = append(l, d.Value)
	}
	return l
}

func byPriority(a, b api.Def) int { return cmp.Compare(a.Priority, b.Priority) }

func byOrder(a, b api.Def) int { return cmp.Compare(a.Order, b.Order) }

// merge puts values together, one at least, that are all of the type.
func (k *kind) merge(l []api.Value) (api.Value, api.Errno) {
	switch k.word {
	case "float":
		return mergeFloats(l)
	case "lines":
		return mergeLines(l)
	case "list":
		return mergeLists(l)
	case "attrs":
		return k.items.mergeSets(l)
	case "unit":
		return mergeUnits(l)
	}
	return mergeEqual(l)
}

// mergeEqual gives the first one without its lists: they are empty, but their
// spare room is the caller's.
func mergeEqual(l []api.Value) (api.Value, api.Errno) {
	first := l[0]
	for _, v := range l[1:] {
		if same, _ := value.Equal(first, v); !same {
			return api.Value{}, api.ErrConflict
		}
	}
	first.Names, first.Items = nil, nil
	return first, api.OK
}

// mergeFloats holds the values against each other as they were said: of two
// ints that differ the floats may be the same, and they are in conflict still.
func mergeFloats(l []api.Value) (api.Value, api.Errno) {
	v, e := mergeEqual(l)
	if v.Kind == api.VInt {
		return api.Value{Kind: api.VFloat, Float: float64(v.Int)}, e
	}
	return v, e
}

func mergeLines(l []api.Value) (api.Value, api.Errno) {
	var lines []string
	for _, v := range l {
		lines = append(lines, v.Text)
	}
	s := strings.Join(lines, "\n")
	if len(s) > api.MaxString {
		return api.Value{}, api.ErrLong
	}
	return textOf(s), api.OK
}

func mergeLists(l []api.Value) (api.Value, api.Errno) { return boundedList(allItems(l)) }

// allItems gives those of all lists, in new memory.
func allItems(l []api.Value) []api.Value {
	var items []api.Value
	for _, v := range l {
		items = append(items, v.Items...)
	}
	return items
}

func boundedList(items []api.Value) (api.Value, api.Errno) {
	if len(items) > api.MaxList {
		return api.Value{}, api.ErrLong
	}
	return listOf(items), api.OK
}

// mergeSets is asked of the type of the sets' items.
func (k *kind) mergeSets(l []api.Value) (api.Value, api.Errno) {
	names, said := gather(l)
	if len(names) > api.MaxList {
		return api.Value{}, api.ErrLong
	}
	set := api.Value{Kind: api.VSet, Names: names}
	for _, values := range said {
		v, e := k.merge(values)
		if e != api.OK {
			return api.Value{}, e
		}
		set.Items = append(set.Items, v)
	}
	return set, api.OK
}

// gather gives the names of all sets, rising, and what stands under each of
// them, in the order of the sets.
func gather(l []api.Value) (names []string, said [][]api.Value) {
	places := map[string]int{}
	for _, v := range l {
		for _, name := range v.Names {
			places[name] = 0
		}
	}
	names = slices.Sorted(maps.Keys(places))
	for i, name := range names {
		places[name] = i
	}
	said = make([][]api.Value, len(names))
	for _, v := range l {
		for i, name := range v.Names {
			at := places[name]
			said[at] = append(said[at], v.Items[i])
		}
	}
	return names, said
}
