package value

import (
	"math"
	"slices"

	"bootjack/api"
)

// Same tells whether two values, right or not, are alike field by field.
func Same(a, b api.Value) bool {
	return a.Kind == b.Kind && a.Int == b.Int && sameFloat(a.Float, b.Float) && a.Text == b.Text &&
		slices.Equal(a.Names, b.Names) && slices.EqualFunc(a.Items, b.Items, Same)
}

// sameFloat goes by the bits, since 0 equals -0, and no NaN equals itself.
func sameFloat(a, b float64) bool {
	return math.Float64bits(a) == math.Float64bits(b) || math.IsNaN(a) && math.IsNaN(b)
}
