package value

import (
	"slices"

	"bootjack/api"
)

// Equal tells whether two values mean the same.
func Equal(a, b api.Value) (bool, api.Errno) {
	if !Right(a) || !Right(b) {
		return false, api.ErrArg
	}
	return equal(a, b)
}

// equal is Equal of values that are right.
func equal(a, b api.Value) (bool, api.Errno) {
	if areNumbers(a, b) {
		return equalNumbers(a, b), api.OK
	}
	if a.Kind != b.Kind {
		return false, api.OK
	}
	switch a.Kind {
	case api.VFunc:
		return false, api.ErrType
	case api.VList:
		return equalItems(a.Items, b.Items)
	case api.VSet:
		if !slices.Equal(a.Names, b.Names) {
			return false, api.OK
		}
		return equalItems(a.Items, b.Items)
	}
	return Same(a, b), api.OK
}

// equalNumbers takes two ints as they are: as floats some that differ are equal.
func equalNumbers(a, b api.Value) bool {
	if areBoth(api.VInt, a, b) {
		return a.Int == b.Int
	}
	return asFloat(a) == asFloat(b)
}

// equalItems ends at the first two that are not equal, so that functions behind
// them never meet.
func equalItems(a, b []api.Value) (bool, api.Errno) {
	if len(a) != len(b) {
		return false, api.OK
	}
	for i := range a {
		if is, e := equal(a[i], b[i]); !is {
			return false, e
		}
	}
	return true, api.OK
}

// Less tells whether a number is below another one, or a string below another.
func Less(a, b api.Value) (bool, api.Errno) {
	switch {
	case !Right(a) || !Right(b):
		return false, api.ErrArg
	case areBoth(api.VInt, a, b):
		return a.Int < b.Int, api.OK
	case areNumbers(a, b):
		return asFloat(a) < asFloat(b), api.OK
	case areBoth(api.VString, a, b):
		return a.Text < b.Text, api.OK
	}
	return false, api.ErrType
}
