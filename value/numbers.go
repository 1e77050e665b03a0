package value

import (
	"math"

	"bootjack/api"
)

// reckonInts tells what one of the four signs makes of two ints.
func reckonInts(sign string, a, b int64) (api.Value, api.Errno) {
	if sign == "/" && b == 0 {
		return api.Value{}, api.ErrZero
	}
	n, fits := int64(0), false
	switch sign {
	case "+":
		n, fits = plus(a, b)
	case "-":
		n, fits = minus(a, b)
	case "*":
		n, fits = times(a, b)
	case "/":
		n, fits = a/b, !isLowestByMinusOne(a, b)
	}
	if !fits {
		return api.Value{}, api.ErrOver
	}
	return ofInt(n), api.OK
}

// plus wraps round where the sum does not fit: then it does not lie on the side
// of a on which b says that it lies. So does minus.
func plus(a, b int64) (int64, bool) {
	n := a + b
	return n, (n > a) == (b > 0)
}

func minus(a, b int64) (int64, bool) {
	n := a - b
	return n, (n < a) == (b > 0)
}

// times asks the quotient whether the product wrapped round; that of -2^63 by
// -1 wraps round itself, and can't be asked.
func times(a, b int64) (int64, bool) {
	if b == 0 {
		return 0, true
	}
	n := a * b
	return n, n/b == a && !isLowestByMinusOne(a, b)
}

func isLowestByMinusOne(a, b int64) bool { return a == math.MinInt64 && b == -1 }

// reckonFloats tells what one of the four signs makes of two floats; by 0 they
// are divided as well.
func reckonFloats(sign string, a, b float64) float64 {
	switch sign {
	case "+":
		return a + b
	case "-":
		return a - b
	case "*":
		return a * b
	}
	return a / b
}

// Negate tells a number with the other sign.
func Negate(a api.Value) (api.Value, api.Errno) {
	switch {
	case !Right(a):
		return api.Value{}, api.ErrArg
	case a.Kind == api.VInt:
		return reckonInts("-", 0, a.Int)
	case a.Kind == api.VFloat:
		return ofFloat(-a.Float), api.OK
	}
	return api.Value{}, api.ErrType
}
