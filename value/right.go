package value

import (
	"math"

	"bootjack/api"
)

// Right tells whether a value is one that the language has.
func Right(v api.Value) bool { return rightWithin(v, api.MaxDeep) }

// rightWithin is Right where so many lists and sets may stand within one
// another. That bound is asked ahead of the items, so that a value that holds
// itself is refused, too.
func rightWithin(v api.Value, room int) bool {
	switch v.Kind {
	case api.VNull, api.VFunc:
		return isBare(v)
	case api.VBool:
		own := v.Int == 0 || v.Int == 1
		v.Int = 0
		return own && isBare(v)
	case api.VInt:
		v.Int = 0
		return isBare(v)
	case api.VFloat:
		v.Float = 0
		return isBare(v)
	case api.VString:
		own := len(v.Text) <= api.MaxString
		v.Text = ""
		return own && isBare(v)
	case api.VList:
		own := rightItems(v.Items, room)
		v.Items = nil
		return own && isBare(v)
	case api.VSet:
		own := len(v.Names) == len(v.Items) && rightNames(v.Names) && rightItems(v.Items, room)
		v.Names, v.Items = nil, nil
		return own && isBare(v)
	}
	return false
}

// isBare tells whether all fields but the kind are 0 or empty. A float is asked
// by its bits: -0 is a float that was set.
func isBare(v api.Value) bool {
	return v.Int == 0 && math.Float64bits(v.Float) == 0 && v.Text == "" && len(v.Names) == 0 && len(v.Items) == 0
}

func rightItems(items []api.Value, room int) bool {
	if room == 0 || len(items) > api.MaxList {
		return false
	}
	for _, v := range items {
		if !rightWithin(v, room-1) {
			return false
		}
	}
	return true
}

func rightNames(names []string) bool {
	for i, n := range names {
		if len(n) > api.MaxString || i > 0 && names[i-1] >= n {
			return false
		}
	}
	return true
}
