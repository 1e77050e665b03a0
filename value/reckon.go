package value

import (
	"slices"

	"bootjack/api"
)

// Reckon tells what a sign makes of two values.
func Reckon(sign string, a, b api.Value) (api.Value, api.Errno) {
	switch {
	case !isSign(sign) || !Right(a) || !Right(b):
		return api.Value{}, api.ErrArg
	case sign == "++" && areBoth(api.VList, a, b):
		return joinLists(a.Items, b.Items)
	case sign == "//" && areBoth(api.VSet, a, b):
		return putOver(a, b)
	case sign == "++" || sign == "//":
		return api.Value{}, api.ErrType
	case areBoth(api.VInt, a, b):
		return reckonInts(sign, a.Int, b.Int)
	case areNumbers(a, b):
		return ofFloat(reckonFloats(sign, asFloat(a), asFloat(b))), api.OK
	case sign == "+" && areBoth(api.VString, a, b):
		return joinTexts(a.Text, b.Text)
	}
	return api.Value{}, api.ErrType
}

func isSign(sign string) bool {
	switch sign {
	case "+", "-", "*", "/", "++", "//":
		return true
	}
	return false
}

func joinTexts(a, b string) (api.Value, api.Errno) {
	if len(a)+len(b) > api.MaxString {
		return api.Value{}, api.ErrLong
	}
	return ofText(a + b), api.OK
}

func joinLists(a, b []api.Value) (api.Value, api.Errno) {
	if len(a)+len(b) > api.MaxList {
		return api.Value{}, api.ErrLong
	}
	return api.Value{Kind: api.VList, Items: slices.Concat(a, b)}, api.OK
}

// putOver goes through the names of both sets at once, as both rise.
func putOver(under, over api.Value) (api.Value, api.Errno) {
	v := api.Value{Kind: api.VSet}
	i, k := 0, 0
	for i < len(under.Names) || k < len(over.Names) {
		from, at := over, k
		if k == len(over.Names) || i < len(under.Names) && under.Names[i] < over.Names[k] {
			from, at = under, i
		}
		name := from.Names[at]
		v.Names, v.Items = append(v.Names, name), append(v.Items, from.Items[at])
		i, k = behind(under.Names, i, name), behind(over.Names, k, name)
	}
	if len(v.Names) > api.MaxList {
		return api.Value{}, api.ErrLong
	}
	return v, api.OK
}

// behind is the place behind a name, where it stands at i, and else i.
func behind(names []string, i int, name string) int {
	if i < len(names) && names[i] == name {
		return i + 1
	}
	return i
}
