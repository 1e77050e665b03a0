package value

import (
	"math"
	"strconv"
	"strings"

	"bootjack/api"
)

// Text tells a value that has no parts as a text.
func Text(v api.Value) (string, api.Errno) {
	if !Right(v) {
		return "", api.ErrArg
	}
	switch v.Kind {
	case api.VNull:
		return "null", api.OK
	case api.VBool:
		return strconv.FormatBool(v.Int == 1), api.OK
	case api.VInt:
		return strconv.FormatInt(v.Int, 10), api.OK
	case api.VFloat:
		return Float(v.Float), api.OK
	case api.VString:
		return v.Text, api.OK
	}
	return "", api.ErrType
}

// Float tells a float by the fewest digits that no other float has.
func Float(x float64) string {
	switch {
	case math.IsNaN(x):
		return "nan"
	case math.IsInf(x, 1):
		return "inf"
	case math.IsInf(x, -1):
		return "-inf"
	case hasPlainDigits(math.Abs(x)):
		return withPoint(strconv.FormatFloat(x, 'f', -1, 64))
	}
	digits, exponent, _ := strings.Cut(strconv.FormatFloat(x, 'e', -1, 64), "e")
	return withPoint(digits) + "e" + exponent
}

// hasPlainDigits tells whether a magnitude is written without an exponent.
func hasPlainDigits(x float64) bool { return x == 0 || x >= 1e-6 && x < 1e21 }

// withPoint keeps a float's digits from being read as an int's.
func withPoint(digits string) string {
	if strings.Contains(digits, ".") {
		return digits
	}
	return digits + ".0"
}
