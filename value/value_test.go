package value_test

import (
	"math"
	"slices"
	"strings"
	"testing"

	"bootjack/api"
	"bootjack/value"
)

func whole(n int64) api.Value         { return api.Value{Kind: api.VInt, Int: n} }
func real(x float64) api.Value        { return api.Value{Kind: api.VFloat, Float: x} }
func text(s string) api.Value         { return api.Value{Kind: api.VString, Text: s} }
func list(l ...api.Value) api.Value   { return api.Value{Kind: api.VList, Items: l} }
func truth(n int64) api.Value         { return api.Value{Kind: api.VBool, Int: n} }
func times(s string, n int) api.Value { return text(strings.Repeat(s, n)) }

// set is one of names and values, by turns.
func set(parts ...any) api.Value {
	v := api.Value{Kind: api.VSet}
	for i := 0; i < len(parts); i += 2 {
		v.Names, v.Items = append(v.Names, parts[i].(string)), append(v.Items, parts[i+1].(api.Value))
	}
	return v
}

// many is a set of so many names that rise, the first of them the from-th.
func many(from, n int, v api.Value) api.Value {
	s := api.Value{Kind: api.VSet}
	for i := from; i < from+n; i++ {
		s.Names, s.Items = append(s.Names, string([]byte{byte(i >> 8), byte(i)})), append(s.Items, v)
	}
	return s
}

// nested is v within so many lists and sets, by turns.
func nested(v api.Value, n int) api.Value {
	for i := range n {
		if i%2 == 0 {
			v = list(v)
		} else {
			v = set("n", v)
		}
	}
	return v
}

const (
	lowest  = math.MinInt64
	highest = math.MaxInt64
)

var (
	null     = api.Value{}
	function = api.Value{Kind: api.VFunc}
	noughts  = math.Copysign(0, -1)
	nan      = math.NaN()
	inf      = math.Inf(1)
)

func rightOnes() []api.Value {
	return []api.Value{
		null, truth(0), truth(1), whole(0), whole(lowest), whole(highest), whole(-1), real(0), real(noughts), real(nan), real(inf), real(-inf), real(1.5),
		text(""), text("a\x00\xff"), times("a", api.MaxString), list(), list(null, function), list(make([]api.Value, api.MaxList)...), set(), set("", null), set("a", null, "b", function),
		set("a", null, "aa", null), set("Z", null, "a", null), set("z", null, "\xc3", null), set(strings.Repeat("a", api.MaxString), null), many(0, api.MaxList, whole(1)), function,
		nested(whole(1), api.MaxDeep), nested(list(), api.MaxDeep-1), nested(set(), api.MaxDeep-1), nested(function, api.MaxDeep), list(nested(null, api.MaxDeep-1), nested(null, api.MaxDeep-1)),
		{Kind: api.VList, Names: []string{}, Items: []api.Value{}}, {Kind: api.VInt, Names: []string{}, Items: []api.Value{}},
	}
}

// wrongOnes are not right, each by one thing.
func wrongOnes() []api.Value {
	l := []api.Value{
		{Kind: -1}, {Kind: 8}, {Kind: highest}, {Kind: lowest}, truth(2), truth(-1), truth(lowest), times("a", api.MaxString+1),
		list(make([]api.Value, api.MaxList+1)...), many(0, api.MaxList+1, null), set("b", null, "a", null), set("a", null, "a", null), set("", null, "", null), set("a", null, "b", null, "b", null), set("a", null, "c", null, "b", null),
		set(strings.Repeat("a", api.MaxString+1), null), set("a", null, strings.Repeat("b", api.MaxString+1), null),
		{Kind: api.VSet, Names: []string{"a"}}, {Kind: api.VSet, Items: []api.Value{null}}, {Kind: api.VSet, Names: []string{"a", "b"}, Items: []api.Value{null}}, {Kind: api.VSet, Names: []string{"a"}, Items: []api.Value{null, null}},
		nested(whole(1), api.MaxDeep+1), nested(list(), api.MaxDeep), nested(set(), api.MaxDeep), nested(whole(1), 1<<16), list(null, nested(null, api.MaxDeep)),
		list(truth(2)), list(null, api.Value{Kind: 9}), set("a", truth(2)), set("a", null, "b", api.Value{Kind: 9}), nested(truth(2), api.MaxDeep), list(set("b", null, "a", null)),
	}
	own := map[int]string{api.VBool: "i", api.VInt: "i", api.VFloat: "f", api.VString: "t", api.VList: "l", api.VSet: "nl"}
	fields := map[string]api.Value{"i": {Int: 1}, "f": {Float: 1}, "z": {Float: noughts}, "q": {Float: nan}, "t": {Text: "a"}, "n": {Names: []string{"a"}}, "l": {Items: []api.Value{null}}}
	for kind := api.VNull; kind <= api.VFunc; kind++ {
		for field, v := range fields {
			v.Kind = kind
			if kind == api.VFloat && strings.Contains("fzq", field) || kind != api.VSet && strings.Contains(own[kind], field) {
				continue
			}
			l = append(l, v)
		}
	}
	self := []api.Value{{Kind: api.VList}, {Kind: api.VList}}
	self[0].Items, self[1].Items = self, self
	return append(l, list(self...))
}

func TestRight(t *testing.T) {
	for i, v := range rightOnes() {
		if !value.Right(v) {
			t.Errorf("the right value %d is not right: %.100v", i, v)
		}
	}
	for i, v := range wrongOnes() {
		if value.Right(v) {
			t.Errorf("the wrong value %d is right", i)
		}
	}
}

func TestWrongValuesAreErrArg(t *testing.T) {
	for i, w := range wrongOnes() {
		for _, v := range []api.Value{null, whole(1), real(1), text("a"), list(), set(), function} {
			for _, p := range [][2]api.Value{{w, v}, {v, w}} {
				if is, e := value.Equal(p[0], p[1]); is || e != api.ErrArg {
					t.Errorf("Equal of the wrong value %d: %v, %d", i, is, e)
				}
				if is, e := value.Less(p[0], p[1]); is || e != api.ErrArg {
					t.Errorf("Less of the wrong value %d: %v, %d", i, is, e)
				}
				for _, sign := range []string{"+", "-", "*", "/", "++", "//", "%"} {
					if x, e := value.Reckon(sign, p[0], p[1]); !value.Same(x, null) || e != api.ErrArg {
						t.Errorf("Reckon(%s) of the wrong value %d: %v, %d", sign, i, x, e)
					}
				}
			}
		}
		if x, e := value.Negate(w); !value.Same(x, null) || e != api.ErrArg {
			t.Errorf("Negate of the wrong value %d: %v, %d", i, x, e)
		}
		if s, e := value.Text(w); s != "" || e != api.ErrArg {
			t.Errorf("Text of the wrong value %d: %q, %d", i, s, e)
		}
		if s := value.Show(w); s != "" {
			t.Errorf("Show of the wrong value %d: %.100q", i, s)
		}
	}
}

func TestSame(t *testing.T) {
	other := math.Float64frombits(math.Float64bits(nan) ^ 1<<63 ^ 3)
	if !math.IsNaN(other) {
		t.Fatal("the other NaN is none")
	}
	deep := nested(whole(1), 1<<16)
	for i, c := range []struct {
		a, b api.Value
		same bool
	}{
		{null, null, true}, {real(nan), real(other), true}, {real(0), real(noughts), false}, {real(1), whole(1), false}, {whole(1), whole(1), true}, {whole(0), real(0), false}, {whole(0), null, false}, {truth(1), whole(1), false},
		{function, function, true}, {list(function), list(function), true}, {list(), api.Value{Kind: api.VList, Names: []string{}, Items: []api.Value{}}, true}, {list(), set(), false},
		{list(real(nan)), list(real(other)), true}, {list(real(0)), list(real(noughts)), false}, {list(null), list(null, null), false}, {list(null, null), list(null), false}, {list(null, truth(0)), list(truth(0), null), false},
		{set("a", null), set("a", null), true}, {set("a", null), set("b", null), false}, {set("a", null), set("a", truth(0)), false}, {text("a"), text("b"), false}, {text("a"), text("a"), true},
		{api.Value{Kind: 9, Int: 1, Float: nan, Text: "a", Names: []string{"b", "a"}}, api.Value{Kind: 9, Int: 1, Float: other, Text: "a", Names: []string{"b", "a"}}, true},
		{api.Value{Kind: 9, Int: 1}, api.Value{Kind: 9, Int: 2}, false}, {api.Value{Kind: 9}, api.Value{Kind: 10}, false}, {api.Value{Text: "a"}, null, false}, {api.Value{Int: 1}, null, false}, {api.Value{Float: 1}, null, false}, {api.Value{Float: nan}, api.Value{Float: other}, true}, {api.Value{Float: nan}, null, false}, {api.Value{Float: noughts}, null, false},
		{api.Value{Names: []string{"a"}}, null, false}, {api.Value{Items: []api.Value{null}}, null, false}, {api.Value{Names: []string{"a", "b"}}, api.Value{Names: []string{"b", "a"}}, false}, {api.Value{Kind: 9, Items: []api.Value{{Kind: 9}}}, api.Value{Kind: 9, Items: []api.Value{{Kind: 9}}}, true},
		{deep, deep, true}, {deep, nested(whole(2), 1<<16), false},
	} {
		if value.Same(c.a, c.b) != c.same || value.Same(c.b, c.a) != c.same {
			t.Errorf("Same of the %d-th: not %v", i, c.same)
		}
	}
}

func TestEqual(t *testing.T) {
	for i, c := range []struct {
		a, b api.Value
		is   bool
		e    api.Errno
	}{
		{whole(1), real(1), true, api.OK}, {real(nan), real(nan), false, api.OK}, {real(0), real(noughts), true, api.OK}, {list(whole(1), function), list(whole(2), function), false, api.OK}, {list(function), list(function), false, api.ErrType},
		{null, null, true, api.OK}, {truth(1), truth(1), true, api.OK}, {truth(1), truth(0), false, api.OK}, {truth(1), whole(1), false, api.OK}, {truth(0), null, false, api.OK}, {text(""), null, false, api.OK}, {text("a"), text("a"), true, api.OK}, {text("a"), text("b"), false, api.OK},
		{whole(highest), whole(highest - 1), false, api.OK}, {whole(highest), whole(highest), true, api.OK}, {whole(0), real(noughts), true, api.OK}, {whole(0), real(nan), false, api.OK}, {whole(1), real(1.5), false, api.OK},
		{whole(1<<53 + 1), real(1 << 53), true, api.OK}, {whole(1<<53 + 3), real(1<<53 + 4), true, api.OK}, {whole(1<<53 + 3), real(1<<53 + 2), false, api.OK}, {whole(highest), real(1 << 63), true, api.OK}, {whole(lowest), real(-1 << 63), true, api.OK}, {whole(highest), real(inf), false, api.OK},
		{real(inf), real(inf), true, api.OK}, {real(inf), real(-inf), false, api.OK}, {list(), set(), false, api.OK}, {list(), list(), true, api.OK}, {set(), set(), true, api.OK},
		{list(whole(1), whole(2)), list(real(1), real(2)), true, api.OK}, {list(whole(1)), list(whole(1), whole(2)), false, api.OK}, {list(function), list(function, null), false, api.OK}, {list(function, whole(1)), list(function, whole(2)), false, api.ErrType}, {list(real(nan), function), list(real(nan), function), false, api.OK},
		{list(list(function), whole(1)), list(list(function), whole(2)), false, api.ErrType}, {list(list(whole(1)), function), list(list(whole(2)), function), false, api.OK}, {list(list(whole(1)), function), list(list(whole(1)), function), false, api.ErrType},
		{function, function, false, api.ErrType}, {function, null, false, api.OK}, {function, list(function), false, api.OK}, {list(function), list(null), false, api.OK},
		{set("a", whole(1)), set("a", real(1)), true, api.OK}, {set("a", whole(1)), set("b", whole(1)), false, api.OK}, {set("a", function), set("b", function), false, api.OK}, {set("a", function, "b", null), set("a", function, "c", null), false, api.OK}, {set("a", function), set("a", function, "b", null), false, api.OK},
		{set("a", function), set("a", function), false, api.ErrType}, {set("a", null, "b", function), set("a", truth(0), "b", function), false, api.OK}, {set("a", null, "b", function), set("a", null, "b", function), false, api.ErrType}, {set("a", function, "b", whole(1)), set("a", function, "b", whole(2)), false, api.ErrType},
		{nested(whole(1), api.MaxDeep), nested(real(1), api.MaxDeep), true, api.OK}, {nested(function, api.MaxDeep), nested(function, api.MaxDeep), false, api.ErrType},
	} {
		is, e := value.Equal(c.a, c.b)
		back, f := value.Equal(c.b, c.a)
		if is != c.is || e != c.e || back != c.is || f != c.e {
			t.Errorf("Equal of the %d-th: %v, %d; the other way round %v, %d", i, is, e, back, f)
		}
	}
}

func TestLess(t *testing.T) {
	for i, c := range []struct {
		a, b       api.Value
		less, more bool
		e          api.Errno
	}{
		{real(nan), whole(1), false, false, api.OK}, {whole(1), real(1.5), true, false, api.OK}, {text("a"), text("b"), true, false, api.OK}, {text("a"), whole(1), false, false, api.ErrType},
		{whole(highest - 1), whole(highest), true, false, api.OK}, {whole(lowest), whole(highest), true, false, api.OK}, {whole(1), whole(1), false, false, api.OK}, {whole(-1), whole(0), true, false, api.OK},
		{whole(1 << 53), real(1<<53 + 2), true, false, api.OK}, {whole(1<<53 + 1), real(1 << 53), false, false, api.OK}, {whole(highest), real(1 << 63), false, false, api.OK}, {whole(highest), real(inf), true, false, api.OK}, {real(-inf), whole(lowest), true, false, api.OK},
		{real(noughts), real(0), false, false, api.OK}, {real(nan), real(nan), false, false, api.OK}, {real(nan), real(inf), false, false, api.OK}, {real(5e-324), whole(0), false, true, api.OK},
		{text(""), text("a"), true, false, api.OK}, {text("a"), text("a"), false, false, api.OK}, {text("a"), text("aa"), true, false, api.OK}, {text("Z"), text("a"), true, false, api.OK}, {text("z"), text("\xc3\xa4"), true, false, api.OK}, {text("\xfe"), text("\xff"), true, false, api.OK}, {text("10"), text("9"), true, false, api.OK},
		{null, null, false, false, api.ErrType}, {truth(0), truth(1), false, false, api.ErrType}, {truth(0), whole(1), false, false, api.ErrType}, {list(), list(), false, false, api.ErrType}, {set(), set(), false, false, api.ErrType}, {function, function, false, false, api.ErrType}, {real(1), text("a"), false, false, api.ErrType}, {list(), text(""), false, false, api.ErrType},
	} {
		less, e := value.Less(c.a, c.b)
		more, f := value.Less(c.b, c.a)
		if less != c.less || e != c.e || more != c.more || f != c.e {
			t.Errorf("Less of the %d-th: %v, %d; the other way round %v, %d", i, less, e, more, f)
		}
	}
}

type reckoned struct {
	sign string
	a, b api.Value
	want api.Value
	e    api.Errno
}

func checkReckoned(t *testing.T, l []reckoned) {
	t.Helper()
	for i, c := range l {
		if v, e := value.Reckon(c.sign, c.a, c.b); e != c.e || !value.Same(v, c.want) {
			t.Errorf("Reckon(%s) of the %d-th: %.200v, %d", c.sign, i, v, e)
		}
	}
}

func TestReckonInts(t *testing.T) {
	checkReckoned(t, []reckoned{
		{"+", whole(highest), whole(1), null, api.ErrOver}, {"/", whole(-7), whole(2), whole(-3), api.OK}, {"/", whole(1), whole(0), null, api.ErrZero},
		{"+", whole(2), whole(3), whole(5), api.OK}, {"+", whole(lowest), whole(-1), null, api.ErrOver}, {"+", whole(lowest), whole(highest), whole(-1), api.OK}, {"+", whole(highest - 1), whole(1), whole(highest), api.OK}, {"+", whole(lowest), whole(lowest), null, api.ErrOver}, {"+", whole(highest), whole(0), whole(highest), api.OK}, {"+", whole(lowest), whole(0), whole(lowest), api.OK},
		{"-", whole(2), whole(3), whole(-1), api.OK}, {"-", whole(0), whole(lowest), null, api.ErrOver}, {"-", whole(-1), whole(lowest), whole(highest), api.OK}, {"-", whole(lowest), whole(1), null, api.ErrOver}, {"-", whole(highest), whole(-1), null, api.ErrOver}, {"-", whole(lowest), whole(lowest), whole(0), api.OK}, {"-", whole(lowest + 1), whole(1), whole(lowest), api.OK},
		{"*", whole(-2), whole(3), whole(-6), api.OK}, {"*", whole(1 << 31), whole(1 << 32), null, api.ErrOver}, {"*", whole(1 << 31), whole(-1 << 32), whole(lowest), api.OK}, {"*", whole(1 << 32), whole(1 << 32), null, api.ErrOver}, {"*", whole(lowest), whole(-1), null, api.ErrOver}, {"*", whole(-1), whole(lowest), null, api.ErrOver}, {"*", whole(lowest), whole(1), whole(lowest), api.OK}, {"*", whole(1), whole(lowest), whole(lowest), api.OK}, {"*", whole(0), whole(lowest), whole(0), api.OK}, {"*", whole(lowest), whole(0), whole(0), api.OK}, {"*", whole(lowest), whole(lowest), null, api.ErrOver}, {"*", whole(highest), whole(-1), whole(-highest), api.OK}, {"*", whole(3037000500), whole(3037000500), null, api.ErrOver}, {"*", whole(3037000499), whole(3037000499), whole(9223372030926249001), api.OK},
		{"/", whole(7), whole(-2), whole(-3), api.OK}, {"/", whole(-7), whole(-2), whole(3), api.OK}, {"/", whole(7), whole(2), whole(3), api.OK}, {"/", whole(1), whole(2), whole(0), api.OK}, {"/", whole(lowest), whole(-1), null, api.ErrOver}, {"/", whole(lowest), whole(1), whole(lowest), api.OK}, {"/", whole(lowest), whole(0), null, api.ErrZero}, {"/", whole(0), whole(0), null, api.ErrZero}, {"/", whole(highest), whole(-1), whole(-highest), api.OK}, {"/", whole(-1), whole(lowest), whole(0), api.OK},
	})
}

func TestReckonFloats(t *testing.T) {
	checkReckoned(t, []reckoned{
		{"/", real(1), whole(0), real(inf), api.OK}, {"/", whole(0), real(-1), real(noughts), api.OK}, {"/", real(-1), whole(0), real(-inf), api.OK}, {"/", real(0), whole(0), real(nan), api.OK}, {"/", whole(1), real(noughts), real(-inf), api.OK}, {"/", whole(7), real(2), real(3.5), api.OK},
		{"+", whole(1), real(0.5), real(1.5), api.OK}, {"+", real(0.1), real(0.2), real(0.30000000000000004), api.OK}, {"+", real(noughts), real(noughts), real(noughts), api.OK}, {"+", real(noughts), whole(0), real(0), api.OK}, {"+", real(inf), real(-inf), real(nan), api.OK}, {"+", whole(highest), real(0), real(1 << 63), api.OK}, {"+", whole(1<<53 + 1), real(0), real(1 << 53), api.OK}, {"+", real(math.MaxFloat64), real(math.MaxFloat64), real(inf), api.OK},
		{"-", real(inf), real(inf), real(nan), api.OK}, {"-", real(0), real(0), real(0), api.OK}, {"-", real(noughts), whole(0), real(noughts), api.OK}, {"-", real(1), whole(3), real(-2), api.OK},
		{"*", real(inf), whole(0), real(nan), api.OK}, {"*", whole(0), real(-1), real(noughts), api.OK}, {"*", real(5e-324), real(0.5), real(0), api.OK}, {"*", real(2), whole(3), real(6), api.OK}, {"*", real(nan), whole(1), real(nan), api.OK},
	})
}

func TestReckonTextsListsSets(t *testing.T) {
	half := list(make([]api.Value, 128)...)
	checkReckoned(t, []reckoned{
		{"+", text("a"), text("b"), text("ab"), api.OK}, {"+", text(""), text(""), text(""), api.OK}, {"+", times("a", 1000), times("a", 24), times("a", 1024), api.OK}, {"+", times("a", 1000), times("a", 25), null, api.ErrLong}, {"+", text("a"), times("a", 1024), null, api.ErrLong}, {"+", times("a", 1024), text(""), times("a", 1024), api.OK},
		{"++", list(whole(1)), list(whole(2)), list(whole(1), whole(2)), api.OK}, {"++", list(), list(), list(), api.OK}, {"++", half, half, list(make([]api.Value, 256)...), api.OK}, {"++", list(whole(1)), list(make([]api.Value, 256)...), null, api.ErrLong}, {"++", list(make([]api.Value, 129)...), half, null, api.ErrLong}, {"++", list(function), list(real(nan)), list(function, real(nan)), api.OK},
		{"++", nested(null, 31), list(), nested(null, 31), api.OK},
		{"//", set("a", whole(1)), set("a", whole(2)), set("a", whole(2)), api.OK}, {"//", set("b", whole(1)), set("a", whole(2)), set("a", whole(2), "b", whole(1)), api.OK}, {"//", set(), set(), set(), api.OK}, {"//", set("a", null), set(), set("a", null), api.OK}, {"//", set(), set("a", null), set("a", null), api.OK},
		{"//", set("a", whole(1), "c", whole(1), "e", whole(1)), set("b", whole(2), "c", whole(2), "d", whole(2)), set("a", whole(1), "b", whole(2), "c", whole(2), "d", whole(2), "e", whole(1)), api.OK}, {"//", set("a", set("x", null)), set("a", set("y", null)), set("a", set("y", null)), api.OK},
		{"//", many(0, 256, whole(1)), many(0, 256, whole(2)), many(0, 256, whole(2)), api.OK}, {"//", many(0, 256, whole(1)), many(1, 256, whole(2)), null, api.ErrLong}, {"//", many(128, 128, whole(1)), many(0, 128, whole(1)), many(0, 256, whole(1)), api.OK}, {"//", many(1, 256, whole(1)), many(0, 1, whole(1)), null, api.ErrLong},
	})
}

func TestReckonOfOtherKinds(t *testing.T) {
	kinds := []api.Value{null, truth(1), whole(1), real(1), text("a"), list(), set(), function}
	for _, a := range kinds {
		for _, b := range kinds {
			for _, sign := range []string{"+", "-", "*", "/", "++", "//"} {
				numbers := (a.Kind == api.VInt || a.Kind == api.VFloat) && (b.Kind == api.VInt || b.Kind == api.VFloat)
				fits := len(sign) == 1 && numbers || a.Kind == b.Kind && (sign == "+" && a.Kind == api.VString || sign == "++" && a.Kind == api.VList || sign == "//" && a.Kind == api.VSet)
				v, e := value.Reckon(sign, a, b)
				if fits != (e == api.OK) || !fits && (e != api.ErrType || !value.Same(v, null)) {
					t.Errorf("Reckon(%s) of kinds %d and %d: %v, %d", sign, a.Kind, b.Kind, v, e)
				}
			}
			for _, sign := range []string{"", "%", "==", "<", "&&", "+++", "///", "+ ", " +", "-+", "and", "\x00", strings.Repeat("+", 9999)} {
				if v, e := value.Reckon(sign, a, b); e != api.ErrArg || !value.Same(v, null) {
					t.Errorf("Reckon(%q) of kinds %d and %d: %v, %d", sign, a.Kind, b.Kind, v, e)
				}
			}
		}
	}
}

func TestNegate(t *testing.T) {
	for _, c := range []struct {
		a, want api.Value
		e       api.Errno
	}{
		{whole(1), whole(-1), api.OK}, {whole(0), whole(0), api.OK}, {whole(lowest), null, api.ErrOver}, {whole(highest), whole(-highest), api.OK}, {whole(-highest), whole(highest), api.OK},
		{real(0), real(noughts), api.OK}, {real(noughts), real(0), api.OK}, {real(nan), real(nan), api.OK}, {real(inf), real(-inf), api.OK}, {real(-1.5), real(1.5), api.OK},
		{null, null, api.ErrType}, {truth(1), null, api.ErrType}, {text("1"), null, api.ErrType}, {list(), null, api.ErrType}, {set(), null, api.ErrType}, {function, null, api.ErrType},
	} {
		if v, e := value.Negate(c.a); e != c.e || !value.Same(v, c.want) {
			t.Errorf("Negate(%v) = %v, %d", c.a, v, e)
		}
	}
}

func TestFloat(t *testing.T) {
	for _, c := range []struct {
		x    float64
		want string
	}{
		{0.1, "0.1"}, {noughts, "-0.0"}, {0, "0.0"}, {1e21, "1.0e+21"}, {1e-7, "1.0e-07"}, {100, "100.0"}, {123456789012345680000, "123456789012345680000.0"},
		{nan, "nan"}, {-nan, "nan"}, {inf, "inf"}, {-inf, "-inf"}, {-0.1, "-0.1"}, {-1e21, "-1.0e+21"}, {-1e-7, "-1.0e-07"}, {1e-6, "0.000001"}, {math.Nextafter(1e-6, 0), "9.999999999999997e-07"}, {math.Nextafter(1e21, 0), "999999999999999900000.0"}, {-1e-6, "-0.000001"}, {1.5e-6, "0.0000015"},
		{1.5e21, "1.5e+21"}, {1.5e-10, "1.5e-10"}, {5e-324, "5.0e-324"}, {-5e-324, "-5.0e-324"}, {math.MaxFloat64, "1.7976931348623157e+308"}, {2.2250738585072014e-308, "2.2250738585072014e-308"}, {1e100, "1.0e+100"}, {1e22, "1.0e+22"}, {1e23, "1.0e+23"}, {1e20, "100000000000000000000.0"},
		{1.0 / 3, "0.3333333333333333"}, {0.30000000000000004, "0.30000000000000004"}, {math.Pi, "3.141592653589793"}, {1 << 53, "9007199254740992.0"}, {1 << 63, "9223372036854776000.0"}, {math.Ldexp(1, -44), "5.684341886080802e-14"}, {12.5, "12.5"}, {1, "1.0"}, {-1, "-1.0"},
	} {
		if s := value.Float(c.x); s != c.want {
			t.Errorf("Float(%g) = %s, not %s", c.x, s, c.want)
		}
	}
}

func TestText(t *testing.T) {
	for _, c := range []struct {
		v    api.Value
		want string
		e    api.Errno
	}{
		{null, "null", api.OK}, {truth(0), "false", api.OK}, {truth(1), "true", api.OK}, {whole(0), "0", api.OK}, {whole(-7), "-7", api.OK}, {whole(lowest), "-9223372036854775808", api.OK}, {whole(highest), "9223372036854775807", api.OK},
		{real(1), "1.0", api.OK}, {real(noughts), "-0.0", api.OK}, {real(nan), "nan", api.OK}, {real(-inf), "-inf", api.OK}, {text(""), "", api.OK}, {text("a\n\"\\\t\x00\xff"), "a\n\"\\\t\x00\xff", api.OK},
		{list(), "", api.ErrType}, {list(text("a")), "", api.ErrType}, {set(), "", api.ErrType}, {function, "", api.ErrType},
	} {
		if s, e := value.Text(c.v); s != c.want || e != c.e {
			t.Errorf("Text(%v) = %q, %d", c.v, s, e)
		}
	}
}

func TestShow(t *testing.T) {
	for _, c := range []struct {
		v    api.Value
		want string
	}{
		{set("a", list(whole(1), text("x"))), `{ "a"=[ 1 "x" ]; }`},
		{null, "null"}, {truth(0), "false"}, {truth(1), "true"}, {whole(-7), "-7"}, {real(1), "1.0"}, {real(nan), "nan"}, {real(noughts), "-0.0"}, {function, "function"}, {list(), "[ ]"}, {set(), "{ }"}, {text(""), `""`}, {text("function"), `"function"`},
		{text("a\n\t\"\\\r\x00\x7f\xff\xc3\xa4'"), "\"a\\n\\t\\\"\\\\\r\x00\x7f\xff\xc3\xa4'\""}, {list(null, list(), set()), "[ null [ ] { } ]"},
		{set("", null, "a\n\t\"\\", function, "b", set("c", real(0.5))), `{ ""=null; "a\n\t\"\\"=function; "b"={ "c"=0.5; }; }`}, {list(text("a b"), text("c")), `[ "a b" "c" ]`},
		{times("\n", api.MaxString), `"` + strings.Repeat(`\n`, api.MaxString) + `"`}, {nested(whole(1), 3), `[ { "n"=[ 1 ]; } ]`},
	} {
		if s := value.Show(c.v); s != c.want {
			t.Errorf("Show = %.100q, not %.100q", s, c.want)
		}
	}
}

// clone has no memory of v.
func clone(v api.Value) api.Value {
	v.Names, v.Items = slices.Clone(v.Names), slices.Clone(v.Items)
	for i := range v.Items {
		v.Items[i] = clone(v.Items[i])
	}
	return v
}

// scribble fills a value's own lists, spare room included.
func scribble(v api.Value) {
	for i := range v.Names[:cap(v.Names)] {
		v.Names[:cap(v.Names)][i] = "scribbled"
	}
	for i := range v.Items[:cap(v.Items)] {
		v.Items[:cap(v.Items)][i] = text("scribbled")
	}
}

func roomy(v api.Value) api.Value {
	v.Names, v.Items = append(make([]string, 0, len(v.Names)+9), v.Names...), append(make([]api.Value, 0, len(v.Items)+9), v.Items...)
	return v
}

func TestMemory(t *testing.T) {
	for _, c := range []reckoned{
		{"++", list(whole(1), list()), list(whole(2)), list(whole(1), list(), whole(2)), 0}, {"++", list(), list(whole(2)), list(whole(2)), 0}, {"++", list(whole(2)), list(), list(whole(2)), 0}, {"++", list(), list(), list(), 0},
		{"//", set("a", whole(1)), set("b", whole(2)), set("a", whole(1), "b", whole(2)), 0}, {"//", set("a", whole(1)), set(), set("a", whole(1)), 0}, {"//", set(), set("a", whole(1)), set("a", whole(1)), 0}, {"//", set("a", null), set("a", whole(1)), set("a", whole(1)), 0}, {"//", set(), set(), set(), 0},
	} {
		a, b := roomy(c.a), roomy(c.b)
		v, _ := value.Reckon(c.sign, a, b)
		w, _ := value.Reckon(c.sign, a, b)
		if !value.Same(a, c.a) || !value.Same(b, c.b) {
			t.Errorf("Reckon(%s) changed what it was given", c.sign)
		}
		scribble(a)
		scribble(b)
		if !value.Same(v, c.want) {
			t.Errorf("Reckon(%s) = %v shares memory with what it was given", c.sign, v)
		}
		scribble(v)
		if !value.Same(w, c.want) {
			t.Errorf("Reckon(%s): two answers share memory", c.sign)
		}
	}
}

// Nothing that the calls are given is changed.
func TestNothingIsChanged(t *testing.T) {
	l := rightOnes()
	for _, a := range l {
		was := clone(a)
		for _, b := range l {
			value.Equal(a, b)
			value.Less(a, b)
			for _, sign := range []string{"+", "-", "*", "/", "++", "//"} {
				value.Reckon(sign, a, b)
			}
		}
		value.Negate(a)
		value.Text(a)
		value.Show(a)
		if !value.Same(a, was) {
			t.Errorf("%.100v was changed", was)
		}
	}
}
