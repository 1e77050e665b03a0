package value_test

import (
	"fmt"
	"maps"
	"math"
	"math/big"
	"math/rand/v2"
	"slices"
	"strings"
	"testing"

	"bootjack/api"
	"bootjack/value"
)

// The model goes through values by a list of what is left to see, and reckons
// with numbers that have no bounds.

type leftValue struct {
	v    api.Value
	deep int
}

func modelRight(v api.Value) bool {
	left := []leftValue{{v, 0}}
	for len(left) > 0 {
		x := left[0]
		left = left[1:]
		if x.v.Kind == api.VList || x.v.Kind == api.VSet {
			x.deep++
		}
		if x.deep > 32 || !modelRightAlone(x.v) {
			return false
		}
		for _, item := range x.v.Items {
			left = append(left, leftValue{item, x.deep})
		}
	}
	return true
}

// modelRightAlone asks all but the items.
func modelRightAlone(v api.Value) bool {
	has := [...]bool{v.Int != 0, v.Float != 0 || math.Signbit(v.Float), v.Text != "", len(v.Names) > 0, len(v.Items) > 0}
	may := [...][5]bool{api.VBool: {0: true}, api.VInt: {0: true}, api.VFloat: {1: true}, api.VString: {2: true}, api.VList: {4: true}, api.VSet: {3: true, 4: true}, api.VFunc: {}}
	if v.Kind < 0 || v.Kind >= len(may) {
		return false
	}
	for i := range has {
		if has[i] && !may[v.Kind][i] {
			return false
		}
	}
	sorted := slices.Clone(v.Names)
	slices.Sort(sorted)
	for _, s := range append(sorted, v.Text) {
		if len(s) > 1024 {
			return false
		}
	}
	return (v.Kind != api.VBool || v.Int*v.Int == v.Int) && slices.Equal(slices.Compact(sorted), v.Names) &&
		(v.Kind != api.VSet || len(v.Names) == len(v.Items)) && len(v.Items) <= 256
}

// modelNumber is a number as one without bounds (nil of NaN and infinite ones),
// and as a float.
func modelNumber(v api.Value) (*big.Rat, float64) {
	if v.Kind == api.VInt {
		f := new(big.Float).SetPrec(53).SetMode(big.ToNearestEven).SetInt64(v.Int)
		x, _ := f.Float64()
		return new(big.Rat).SetInt64(v.Int), x
	}
	return new(big.Rat).SetFloat64(v.Float), v.Float
}

func modelIsNumber(v api.Value) bool { return v.Kind == api.VInt || v.Kind == api.VFloat }

// modelOrder is -1, 0 or 1, and 2 where one of the floats is NaN.
func modelOrder(a, b api.Value) int {
	p, x := modelNumber(a)
	q, y := modelNumber(b)
	if a.Kind == api.VInt && b.Kind == api.VInt {
		return p.Cmp(q)
	}
	switch {
	case math.IsNaN(x) || math.IsNaN(y):
		return 2
	case math.IsInf(x, 0) || math.IsInf(y, 0):
		return modelSide(x) - modelSide(y)
	}
	return new(big.Rat).SetFloat64(x).Cmp(new(big.Rat).SetFloat64(y))
}

func modelSide(x float64) int {
	switch {
	case math.IsInf(x, 1):
		return 1
	case math.IsInf(x, -1):
		return -1
	}
	return 0
}

func modelEqual(a, b api.Value) (bool, api.Errno) {
	if !modelRight(a) || !modelRight(b) {
		return false, api.ErrArg
	}
	left := [][2]api.Value{{a, b}}
	for len(left) > 0 {
		a, b := left[0][0], left[0][1]
		left = left[1:]
		switch {
		case modelIsNumber(a) && modelIsNumber(b):
			if modelOrder(a, b) != 0 {
				return false, api.OK
			}
		case a.Kind != b.Kind || a.Int != b.Int || a.Text != b.Text || !slices.Equal(a.Names, b.Names) || len(a.Items) != len(b.Items):
			return false, api.OK
		case a.Kind == api.VFunc:
			return false, api.ErrType
		}
		var ahead [][2]api.Value
		for i := range a.Items {
			ahead = append(ahead, [2]api.Value{a.Items[i], b.Items[i]})
		}
		left = append(ahead, left...)
	}
	return true, api.OK
}

func modelLess(a, b api.Value) (bool, api.Errno) {
	switch {
	case !modelRight(a) || !modelRight(b):
		return false, api.ErrArg
	case modelIsNumber(a) && modelIsNumber(b):
		return modelOrder(a, b) < 0, api.OK
	case a.Kind == api.VString && b.Kind == api.VString:
		return slices.Compare([]byte(a.Text), []byte(b.Text)) < 0, api.OK
	}
	return false, api.ErrType
}

func modelReckon(sign string, a, b api.Value) (api.Value, api.Errno) {
	numbers := modelIsNumber(a) && modelIsNumber(b)
	switch {
	case !modelRight(a) || !modelRight(b) || !slices.Contains([]string{"+", "-", "*", "/", "++", "//"}, sign):
		return api.Value{}, api.ErrArg
	case len(sign) == 1 && numbers && a.Kind+b.Kind == 2*api.VInt:
		return modelInts(sign, big.NewInt(a.Int), big.NewInt(b.Int))
	case len(sign) == 1 && numbers:
		_, x := modelNumber(a)
		_, y := modelNumber(b)
		return real(modelFloats(sign, x, y)), api.OK
	case a.Kind != b.Kind:
	case sign == "+" && a.Kind == api.VString:
		s := strings.Join([]string{a.Text, b.Text}, "")
		return modelShort(text(s), len(s), 1024)
	case sign == "++" && a.Kind == api.VList:
		l := append(append([]api.Value{}, a.Items...), b.Items...)
		return modelShort(list(l...), len(l), 256)
	case sign == "//" && a.Kind == api.VSet:
		all := map[string]api.Value{}
		for _, v := range []api.Value{a, b} {
			for i, n := range v.Names {
				all[n] = v.Items[i]
			}
		}
		v := set()
		for _, n := range slices.Sorted(maps.Keys(all)) {
			v.Names, v.Items = append(v.Names, n), append(v.Items, all[n])
		}
		return modelShort(v, len(all), 256)
	}
	return api.Value{}, api.ErrType
}

func modelShort(v api.Value, n, most int) (api.Value, api.Errno) {
	if n > most {
		return api.Value{}, api.ErrLong
	}
	return v, api.OK
}

func modelInts(sign string, a, b *big.Int) (api.Value, api.Errno) {
	n := new(big.Int)
	switch {
	case sign == "+":
		n.Add(a, b)
	case sign == "-":
		n.Sub(a, b)
	case sign == "*":
		n.Mul(a, b)
	case b.Sign() == 0:
		return api.Value{}, api.ErrZero
	default:
		n.Quo(a, b)
	}
	if !n.IsInt64() {
		return api.Value{}, api.ErrOver
	}
	return whole(n.Int64()), api.OK
}

// modelFloats reckons without bounds and rounds then, but where one of the two
// is infinite, NaN or 0, of which it says what the standard of floats says.
func modelFloats(sign string, x, y float64) float64 {
	if sign == "-" {
		sign, y = "+", math.Copysign(y, map[bool]float64{true: 1, false: -1}[math.Signbit(y)])
	}
	if math.IsNaN(x) || math.IsNaN(y) {
		return math.NaN()
	}
	minus := math.Signbit(x) != math.Signbit(y)
	xEnd, yEnd := math.IsInf(x, 0), math.IsInf(y, 0)
	bySign := func(magnitude float64) float64 {
		return math.Copysign(magnitude, map[bool]float64{true: -1, false: 1}[minus])
	}
	switch {
	case sign == "+" && xEnd && yEnd && minus, sign == "*" && (xEnd && y == 0 || yEnd && x == 0), sign == "/" && (xEnd && yEnd || x == 0 && y == 0):
		return math.NaN()
	case sign == "+" && xEnd:
		return x
	case sign == "+" && yEnd:
		return y
	case sign == "+" && x == 0 && y == 0:
		return math.Copysign(0, map[bool]float64{true: -1, false: 1}[math.Signbit(x) && math.Signbit(y)])
	case sign == "*" && (xEnd || yEnd), sign == "/" && (xEnd || y == 0):
		return bySign(math.Inf(1))
	case sign == "*" && (x == 0 || y == 0), sign == "/" && (x == 0 || yEnd):
		return bySign(0)
	}
	p, q, n := new(big.Rat).SetFloat64(x), new(big.Rat).SetFloat64(y), new(big.Rat)
	switch sign {
	case "+":
		f, _ := n.Add(p, q).Float64()
		return f
	case "*":
		n.Mul(p, q)
	default:
		n.Quo(p, q)
	}
	f, _ := n.Float64()
	return bySign(math.Abs(f))
}

// modelFloat tries digits by their number, those next to the float on both
// sides, and takes the nearest of those that are read as it; of two as near the
// even one.
func modelFloat(x float64) string {
	switch {
	case math.IsNaN(x):
		return "nan"
	case modelSide(x) != 0:
		return map[int]string{1: "inf", -1: "-inf"}[modelSide(x)]
	case math.Signbit(x):
		return "-" + modelFloat(-x)
	case x == 0:
		return "0.0"
	}
	exact := new(big.Rat).SetFloat64(x)
	exponent := int(math.Log10(x)) - 1
	for exact.Cmp(ten(exponent+1)) >= 0 {
		exponent++
	}
	for exact.Cmp(ten(exponent)) < 0 {
		exponent--
	}
	for n := 1; ; n++ {
		if digits := modelDigits(exact, x, exponent-n+1); digits != nil {
			return modelForm(digits, exponent-n+1, x)
		}
	}
}

func ten(n int) *big.Rat {
	p := new(big.Rat).SetInt(new(big.Int).Exp(big.NewInt(10), big.NewInt(int64(max(n, -n))), nil))
	if n < 0 {
		p.Inv(p)
	}
	return p
}

// modelDigits is the number of steps of 10^unit that is read as x, or nil.
func modelDigits(exact *big.Rat, x float64, unit int) *big.Int {
	steps := new(big.Rat).Quo(exact, ten(unit))
	low := new(big.Int).Quo(steps.Num(), steps.Denom())
	var best *big.Int
	var least *big.Rat
	for _, c := range []*big.Int{low, new(big.Int).Add(low, big.NewInt(1))} {
		far := new(big.Rat).Sub(new(big.Rat).SetInt(c), steps)
		far.Abs(far)
		if f, _ := new(big.Rat).Mul(new(big.Rat).SetInt(c), ten(unit)).Float64(); f != x {
			continue
		}
		if best == nil || far.Cmp(least) < 0 || far.Cmp(least) == 0 && c.Bit(0) == 0 {
			best, least = c, far
		}
	}
	return best
}

func modelForm(digits *big.Int, unit int, x float64) string {
	s := digits.String()
	for strings.HasSuffix(s, "0") {
		s, unit = s[:len(s)-1], unit+1
	}
	if x < 1e-6 || x >= 1e21 {
		return fmt.Sprintf("%se%+03d", modelPoint(s[:1], s[1:]), unit+len(s)-1)
	}
	if unit >= 0 {
		return modelPoint(s+strings.Repeat("0", unit), "")
	}
	s = strings.Repeat("0", max(0, 1-unit-len(s))) + s
	return modelPoint(s[:len(s)+unit], s[len(s)+unit:])
}

func modelPoint(ahead, behind string) string {
	if behind == "" {
		behind = "0"
	}
	return ahead + "." + behind
}

var modelQuotes = strings.NewReplacer("\n", "\\n", "\t", "\\t", "\"", "\\\"", "\\", "\\\\")

func modelQuote(s string) string { return `"` + modelQuotes.Replace(s) + `"` }

func modelText(v api.Value) (string, api.Errno) {
	if !modelRight(v) {
		return "", api.ErrArg
	}
	switch v.Kind {
	case api.VNull:
		return "null", api.OK
	case api.VBool:
		return fmt.Sprint(v.Int > 0), api.OK
	case api.VInt:
		return fmt.Sprint(v.Int), api.OK
	case api.VFloat:
		return modelFloat(v.Float), api.OK
	case api.VString:
		return v.Text, api.OK
	}
	return "", api.ErrType
}

func modelShow(v api.Value) string {
	if !modelRight(v) {
		return ""
	}
	var parts []string
	for i, item := range v.Items {
		if v.Kind == api.VSet {
			parts = append(parts, modelQuote(v.Names[i])+"="+modelShow(item)+"; ")
		} else {
			parts = append(parts, modelShow(item)+" ")
		}
	}
	inner := " " + strings.Join(parts, "")
	switch v.Kind {
	case api.VString:
		return modelQuote(v.Text)
	case api.VList:
		return "[" + inner + "]"
	case api.VSet:
		return "{" + inner + "}"
	case api.VFunc:
		return "function"
	}
	s, _ := modelText(v)
	return s
}

// A chooser makes values of a few parts, so that two of them are often alike.
type chooser struct{ *rand.Rand }

func (r chooser) of(l ...string) string { return l[r.IntN(len(l))] }

func (r chooser) float() float64 {
	switch r.IntN(6) {
	case 0:
		return []float64{0, noughts, nan, inf, -inf, 1, -1, 2, 0.5, 5e-324, math.MaxFloat64, 1e21, 1e-6, 1 << 53, 1 << 63, -1 << 63}[r.IntN(16)]
	case 1:
		return math.Float64frombits(r.Uint64())
	case 2:
		return math.Ldexp(1, r.IntN(2098)-1074)
	case 3:
		return float64(r.IntN(2000)-1000) / float64(1+r.IntN(100))
	case 4:
		return math.Ldexp(float64(r.Uint64()>>11), r.IntN(40)-20)
	}
	return float64(r.int())
}

func (r chooser) int() int64 {
	switch r.IntN(5) {
	case 0:
		return []int64{0, 1, -1, lowest, lowest + 1, highest, highest - 1, 1 << 53, 1<<53 + 1, 3037000499, 3037000500, 1 << 31, -1 << 32}[r.IntN(13)]
	case 1:
		return int64(r.Uint64())
	case 2:
		return int64(r.Uint64() >> r.IntN(64))
	case 3:
		return -int64(r.Uint64() >> r.IntN(64))
	}
	return r.Int64N(9) - 4
}

func (r chooser) text() string {
	if r.IntN(30) == 0 {
		return strings.Repeat("a", 500+r.IntN(600))
	}
	return r.of("", "a", "b", "ab", "\n", "\t\"", "\\", "\\n", "\xff", "=", "; ", "null")
}

func (r chooser) value(deep int) api.Value {
	kind := r.IntN(8)
	if deep == 0 {
		kind = r.IntN(5)
	}
	v := api.Value{Kind: kind}
	switch kind {
	case api.VBool:
		v.Int = r.Int64N(2)
	case api.VInt:
		v.Int = r.int()
	case api.VFloat:
		v.Float = r.float()
	case api.VString:
		v.Text = r.text()
	case api.VList:
		for range r.IntN(4) {
			v.Items = append(v.Items, r.value(deep-1))
		}
	case api.VSet:
		for range r.IntN(4) {
			v.Names = append(v.Names, r.of("", "a", "b", "c", "\"", "\n"))
		}
		slices.Sort(v.Names)
		v.Names = slices.Compact(v.Names)
		for range v.Names {
			v.Items = append(v.Items, r.value(deep-1))
		}
	}
	return v
}

// wide has lists and sets about the limits.
func (r chooser) wide() api.Value {
	switch r.IntN(3) {
	case 0:
		return list(make([]api.Value, r.IntN(258))...)
	case 1:
		return many(r.IntN(9), r.IntN(257), r.value(1))
	}
	return nested(r.value(0), 31+r.IntN(3))
}

// bend changes one thing of a value somewhere within it.
func (r chooser) bend(v api.Value) api.Value {
	v = clone(v)
	x := &v
	for len(x.Items) > 0 && r.IntN(3) > 0 {
		x = &x.Items[r.IntN(len(x.Items))]
	}
	switch r.IntN(8) {
	case 0:
		x.Kind = r.IntN(10) - 1
	case 1:
		x.Int = r.Int64N(4) - 1
	case 2:
		x.Float = r.float()
	case 3:
		x.Text = r.text()
	case 4:
		slices.Reverse(x.Names)
	case 5:
		x.Names = append(x.Names, r.text())
	case 6:
		x.Items = append(x.Items, r.value(0))
	default:
		*x = r.value(1)
	}
	return v
}

func (r chooser) pair() (api.Value, api.Value) {
	a, b := r.value(3), r.value(3)
	if r.IntN(8) == 0 {
		a, b = r.wide(), r.wide()
	}
	switch r.IntN(9) {
	case 0:
		b = clone(a)
	case 1:
		b = r.bend(a)
	case 2:
		a, b = whole(r.int()), whole(r.int())
	case 3:
		a, b = real(r.float()), real(r.float())
	case 4:
		a, b = whole(r.int()), real(r.float())
		if r.IntN(2) == 0 {
			b.Float = float64(a.Int)
		}
	case 5:
		a, b = many(0, r.IntN(257), null), many(r.IntN(257), r.IntN(257), truth(1))
	case 6:
		a, b = whole(lowest+r.Int64N(2)), whole(r.Int64N(5)-2)
	case 7:
		a, b = times("a", r.IntN(1025)), times("b", r.IntN(1025))
	}
	if r.IntN(2) == 0 {
		return b, a
	}
	return a, b
}

func checkPair(t *testing.T, a, b api.Value, told map[string]int) {
	t.Helper()
	tell := func(call string, is, want any, e, f api.Errno, alike bool) {
		told[fmt.Sprintf("%s %d", call, f)]++
		if e != f || !alike {
			t.Fatalf("%s of %.200v and %.200v: %v, %d, not %v, %d", call, a, b, is, e, want, f)
		}
	}
	is, e := value.Equal(a, b)
	want, f := modelEqual(a, b)
	tell(fmt.Sprint("Equal ", want), is, want, e, f, is == want)
	is, e = value.Less(a, b)
	want, f = modelLess(a, b)
	tell(fmt.Sprint("Less ", want), is, want, e, f, is == want)
	for _, sign := range []string{"+", "-", "*", "/", "++", "//", "=="} {
		v, e := value.Reckon(sign, a, b)
		w, f := modelReckon(sign, a, b)
		tell("Reckon "+sign, v, w, e, f, value.Same(v, w))
		if !value.Right(v) {
			t.Fatalf("Reckon(%s) of %v and %v is not right: %v", sign, a, b, v)
		}
	}
	v, e := value.Negate(a)
	w, f := modelNegate(a)
	tell("Negate", v, w, e, f, value.Same(v, w))
	s, e := value.Text(a)
	z, f := modelText(a)
	tell("Text", s, z, e, f, s == z)
	s, z = value.Show(a), modelShow(a)
	tell("Show", s, z, 0, 0, s == z)
	if value.Right(a) && value.Right(b) && (value.Show(a) == value.Show(b)) != value.Same(a, b) {
		t.Fatalf("Show and Same of %v and %v", a, b)
	}
	tell("Right", value.Right(a), modelRight(a), 0, 0, value.Right(a) == modelRight(a))
}

func modelNegate(a api.Value) (api.Value, api.Errno) {
	if modelRight(a) && a.Kind == api.VFloat {
		return real(math.Float64frombits(math.Float64bits(a.Float) ^ 1<<63)), api.OK
	}
	if modelRight(a) && !modelIsNumber(a) {
		return api.Value{}, api.ErrType
	}
	return modelReckon("-", whole(0), a)
}

func TestModel(t *testing.T) {
	r := chooser{rand.New(rand.NewPCG(12, 1))}
	told := map[string]int{}
	for range 15000 {
		a, b := r.pair()
		checkPair(t, a, b, told)
	}
	for _, s := range []string{
		"Equal true 0", "Equal false 0", "Equal false 1", "Equal false 11", "Less true 0", "Less false 0", "Less false 1", "Less false 11",
		"Reckon + 0", "Reckon + 1", "Reckon + 11", "Reckon + 16", "Reckon + 20", "Reckon - 0", "Reckon - 16", "Reckon * 0", "Reckon * 16", "Reckon / 0", "Reckon / 16", "Reckon / 17", "Reckon ++ 0", "Reckon ++ 11", "Reckon ++ 20", "Reckon // 0", "Reckon // 11", "Reckon // 20", "Reckon == 1",
		"Negate 0", "Negate 1", "Negate 11", "Negate 16", "Text 0", "Text 1", "Text 11",
	} {
		if told[s] < 20 {
			t.Errorf("%s was told %d times", s, told[s])
		}
	}
}

func TestFloatModel(t *testing.T) {
	r := chooser{rand.New(rand.NewPCG(12, 2))}
	var l []float64
	for n := range 2098 {
		x := math.Ldexp(1, n-1074)
		l = append(l, x, math.Nextafter(x, 0), math.Nextafter(x, inf))
	}
	for n := -323; n <= 308; n++ {
		x, _ := ten(n).Float64()
		l = append(l, x, math.Nextafter(x, 0), math.Nextafter(x, inf))
	}
	// Quarters about here lie in the midst of two that have as few digits.
	for n := range 400 {
		l = append(l, 1<<50+float64(n)/4, 1<<51-float64(n)/4)
	}
	for range 6000 {
		l = append(l, r.float())
	}
	for _, x := range l {
		if s, want := value.Float(x), modelFloat(x); s != want {
			t.Errorf("Float(%b) = %s, not %s", x, s, want)
		}
	}
}

func FuzzPair(f *testing.F) {
	f.Add(uint64(1), uint64(1))
	f.Fuzz(func(t *testing.T, a, b uint64) {
		r := chooser{rand.New(rand.NewPCG(a, b))}
		x, y := r.pair()
		checkPair(t, x, y, map[string]int{})
		checkPair(t, real(math.Float64frombits(a)), real(math.Float64frombits(b)), map[string]int{})
		checkPair(t, whole(int64(a)), real(math.Float64frombits(b)), map[string]int{})
		checkPair(t, whole(int64(a)), whole(int64(b)), map[string]int{})
	})
}
