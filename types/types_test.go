package types_test

import (
	"math"
	"strings"
	"testing"

	"bootjack/api"
	"bootjack/types"
	"bootjack/value"
)

func whole(n int64) api.Value         { return api.Value{Kind: api.VInt, Int: n} }
func real(x float64) api.Value        { return api.Value{Kind: api.VFloat, Float: x} }
func text(s string) api.Value         { return api.Value{Kind: api.VString, Text: s} }
func list(l ...api.Value) api.Value   { return api.Value{Kind: api.VList, Items: l} }
func truth(n int64) api.Value         { return api.Value{Kind: api.VBool, Int: n} }
func times(s string, n int) api.Value { return text(strings.Repeat(s, n)) }

// set is one of names and values, by turns.
func set(parts ...any) api.Value {
	v := api.Value{Kind: api.VSet}
	for i := 0; i < len(parts); i += 2 {
		v.Names, v.Items = append(v.Names, parts[i].(string)), append(v.Items, parts[i+1].(api.Value))
	}
	return v
}

// many is a set of so many names that rise, the first of them the from-th.
func many(from, n int, v api.Value) api.Value {
	s := api.Value{Kind: api.VSet}
	for i := from; i < from+n; i++ {
		s.Names, s.Items = append(s.Names, numbered(i)), append(s.Items, v)
	}
	return s
}

func numbered(i int) string { return string([]byte{'n', byte(i >> 8), byte(i)}) }

// copies is a list of so many of a value, texts one of so many different ones.
func copies(v api.Value, n int) api.Value {
	l := list()
	for range n {
		l.Items = append(l.Items, v)
	}
	return l
}

func texts(from, n int) api.Value {
	l := list()
	for i := from; i < from+n; i++ {
		l.Items = append(l.Items, text(numbered(i)))
	}
	return l
}

// nested is v within so many lists.
func nested(v api.Value, n int) api.Value {
	for range n {
		v = list(v)
	}
	return v
}

// defs are definitions of one priority and order.
func defs(l ...api.Value) []api.Def {
	var d []api.Def
	for _, v := range l {
		d = append(d, api.Def{Value: v, Priority: 100, Order: 1000})
	}
	return d
}

func def(v api.Value, priority, order int64) api.Def {
	return api.Def{Value: v, Priority: priority, Order: order}
}

const (
	lowest  = math.MinInt64
	highest = math.MaxInt64
	even    = 1 << 53 // the next int has no float of its own
)

var (
	null     = api.Value{}
	function = api.Value{Kind: api.VFunc}
	noughts  = math.Copysign(0, -1)
	nan      = math.NaN()
	inf      = math.Inf(1)
)

func rightTypes() []string {
	return []string{
		"bool", "float", "string", "int", "lines", "unit",
		"int 0 0", "int 0 1", "int 3 5", "int 5 5", "int 9 10", "int 99 100", "int 0 999999999", "int 999999999 999999999", "int 123456789 987654321",
		"enum a", "enum z", "enum 0", "enum 9", "enum -", "enum --", "enum a-1", "enum a b", "enum b a", "enum a aa", "enum int list", "enum enum", "enum unit", "enum 03 3", "enum 5 3", "enum -a a-",
		"enum a b c d e f g", "enum " + strings.Repeat("a", 59), "enum a " + strings.Repeat("z", 57),
		"list bool", "list float", "list string", "list int", "list lines", "list unit", "list int 1 2", "list enum a b", "list list int", "list attrs int",
		"attrs bool", "attrs float", "attrs string", "attrs int", "attrs lines", "attrs unit", "attrs int 1 2", "attrs enum a b", "attrs attrs int", "attrs list enum list unit",
		strings.Repeat("list ", 7) + "bool", strings.Repeat("attrs ", 7) + "unit", strings.Repeat("list ", 5) + "int 1 2", strings.Repeat("attrs ", 6) + "enum a", "attrs " + strings.Repeat("list ", 4) + "enum " + strings.Repeat("a", 33),
	}
}

func wrongTypes() []string {
	l := []string{
		"", " ", "  ", "a", "set", "null", "function", "boolean", "boo", "Bool", "BOOL", "ints", "in", "bool\n", "\tbool", "bool\x00", "bool,", "lists", "attr", "units",
		"bool bool", "bool 1 2", "float 1 2", "string a", "lines a", "unit unit", "unit x", "float int",
		"int 5 3", "int 1 0", "int 10 9", "int 999999999 0", "int 3", "int 1 2 3", "int 1 2 3 4", "int a b", "int 1 b", "int a 1", "int 03 5", "int 0 05", "int 00 1", "int 0 00", "int -1 1", "int 0 -1", "int +1 2", "int 1 +2", "int 1_0 20",
		"int 0x1 2", "int 1.0 2", "int 1e1 20", "int 1 1000000000", "int 1000000000 1000000000", "int 0000000001 2", "int 1 99999999999999999999999999", "int 1\xb2 2", "int int", "int bool",
		"enum", "enum A", "enum a B", "enum a_b", "enum a.b", "enum a,b", "enum \xc3\xa4", "enum a a", "enum a b a", "enum b a a", "enum a b c d e f a", "enum \"a\"", "enum a\tb", "enum `", "enum {", "enum /", "enum :", "enum ,", "enum .", "enum a\x00",
		"list", "attrs", "list list", "attrs list", "list attrs", "list 5", "list bool bool", "list int 1", "list int 5 3", "list enum", "list enum a a", "attrs enum", "list set", "listint", "list\tint", "attrs unit unit", "attrs x unit",
		strings.Repeat("list ", 8) + "bool", strings.Repeat("list ", 6) + "int 1 2", strings.Repeat("attrs ", 7) + "enum a", "enum a b c d e f g h", strings.Repeat("list ", 7) + "list", strings.Repeat("list ", 8),
		"enum " + strings.Repeat("a", 60), "enum a " + strings.Repeat("z", 58), strings.Repeat("a", 64), strings.Repeat("a", 65), strings.Repeat(" ", 64), strings.Repeat("list ", 1<<16) + "int", strings.Repeat("a", 1<<20),
	}
	// One blank stands between words, and none elsewhere.
	for _, t := range []string{"bool", "int", "int 1 2", "enum a b", "list int", "attrs list unit", "enum a"} {
		l = append(l, " "+t, t+" ", t+"  ", strings.ToUpper(t), t+"\n")
		if strings.Contains(t, " ") {
			l = append(l, strings.Replace(t, " ", "  ", 1), strings.ReplaceAll(t, " ", "\t"), strings.ReplaceAll(t, " ", ""), strings.ReplaceAll(t, " ", "\xa0"))
		}
	}
	return l
}

func TestT1Right(t *testing.T) {
	for _, s := range rightTypes() {
		if !types.Right(s) {
			t.Errorf("Right(%q) is false", s)
		}
	}
	for _, s := range wrongTypes() {
		if types.Right(s) {
			t.Errorf("Right(%.100q) is true", s)
		}
	}
}

// Every byte, as a whole word of an enum, and at each place of one.
func TestT1BytesOfEnums(t *testing.T) {
	for c := range 256 {
		want := strings.Contains("abcdefghijklmnopqrstuvwxyz0123456789-", string([]byte{byte(c)}))
		for _, s := range []string{"enum ", "enum a", "enum b a"} {
			if s += string([]byte{byte(c)}); types.Right(s) != want {
				t.Errorf("Right(%q) is %v", s, !want)
			}
			if s += "z"; c != ' ' && types.Right(s) != want {
				t.Errorf("Right(%q) is %v", s, !want)
			}
		}
		digit := c >= '0' && c <= '9'
		if s := "int 1 1" + string([]byte{byte(c)}); types.Right(s) != digit {
			t.Errorf("Right(%q) is %v", s, !digit)
		}
	}
}

// someValues are right ones, of which a type takes those that its row names.
func someValues() []api.Value {
	return []api.Value{
		0: null, 1: truth(0), 2: truth(1), 3: whole(0), 4: whole(4), 5: whole(lowest), 6: whole(highest), 7: real(0), 8: real(4), 9: real(nan),
		10: text(""), 11: text("a"), 12: text("b"), 13: text("a\nb"), 14: times("a", api.MaxString), 15: list(), 16: list(whole(4)), 17: list(whole(4), real(4)), 18: list(text("a"), text("b")), 19: list(text("a"), null),
		20: set(), 21: set("a", whole(4)), 22: set("a", text("a"), "z", text("\n")), 23: set("a", whole(4), "b", whole(-4)), 24: set("start", text("a")), 25: set("after", list(), "requires", list(), "start", text("")),
		26: set("after", list(text("a"))), 27: set("requires", list(text("a"), text("a"))), 28: set("after", list(whole(4))), 29: set("start", list()), 30: set("requires", text("a")), 31: set("after", list(), "stop", text("a")),
		32: set("", text("a")), 33: set("Start", text("a")), 34: set("a", set("start", text("a")), "b", set()), 35: set("a", list(), "b", list(text("a"))), 36: function, 37: list(function), 38: set("a", function), 39: list(list(), list(whole(3))),
		40: list(set()), 41: list(truth(1), truth(0)), 42: nested(whole(1), 7), 43: nested(whole(1), 8), 44: nested(whole(1), api.MaxDeep), 45: whole(3), 46: whole(5), 47: whole(2), 48: whole(6), 49: set("after", null), 50: set("start", null), 51: set("requires", list(list())), 52: whole(-1), 53: set("a", set("stop", text("a"))), 54: set("starts", text("a")),
	}
}

func TestT2Of(t *testing.T) {
	for _, c := range []struct {
		t     string
		takes []int
	}{
		{"bool", []int{1, 2}},
		{"float", []int{3, 4, 5, 6, 7, 8, 9, 45, 46, 47, 48, 52}},
		{"string", []int{10, 11, 12, 13, 14}},
		{"lines", []int{10, 11, 12, 13, 14}},
		{"int", []int{3, 4, 5, 6, 45, 46, 47, 48, 52}},
		{"int 3 5", []int{4, 45, 46}},
		{"int 4 4", []int{4}},
		{"int 0 0", []int{3}},
		{"int 0 999999999", []int{3, 4, 45, 46, 47, 48}},
		{"enum a", []int{11}},
		{"enum b a", []int{11, 12}},
		{"enum aa", nil},
		{"list int", []int{15, 16}},
		{"list int 4 5", []int{15, 16}},
		{"list int 5 5", []int{15}},
		{"list float", []int{15, 16, 17}},
		{"list string", []int{15, 18}},
		{"list enum a", []int{15}},
		{"list enum a b", []int{15, 18}},
		{"list bool", []int{15, 41}},
		{"list list int", []int{15, 39}},
		{"list attrs int", []int{15, 40}},
		{"list unit", []int{15, 40}},
		{"attrs int", []int{20, 21, 23}},
		{"attrs int 0 9", []int{20, 21}},
		{"attrs float", []int{20, 21, 23}},
		{"attrs string", []int{20, 22, 24, 30, 32, 33, 54}},
		{"attrs enum a", []int{20, 24, 30, 32, 33, 54}},
		{"attrs list string", []int{20, 26, 27, 29, 35}},
		{"attrs list int", []int{20, 28, 29}},
		{"attrs list list bool", []int{20, 29, 51}},
		{"attrs unit", []int{20, 34}},
		{"attrs attrs string", []int{20, 34, 53}},
		{"unit", []int{20, 24, 25, 26, 27}},
		{strings.Repeat("list ", 7) + "int", []int{15, 42}},
		{strings.Repeat("list ", 7) + "bool", []int{15}},
		{"no", nil}, {"", nil}, {"int 5 3", nil}, {"list", nil}, {" int", nil}, {"enum a a", nil}, {"unit x", nil},
	} {
		takes := map[int]bool{}
		for _, i := range c.takes {
			takes[i] = true
		}
		for i, v := range someValues() {
			if types.Of(c.t, v) != takes[i] {
				t.Errorf("Of(%q, %.100s) is %v", c.t, value.Show(v), !takes[i])
			}
		}
	}
}

// wrongValues would be of some type, if it were not for the one thing that is
// not right in them.
func wrongValues() []api.Value {
	self := []api.Value{{Kind: api.VList}}
	self[0].Items = self
	return []api.Value{
		{Kind: 9}, {Kind: -1}, truth(2), truth(-1), {Kind: api.VBool, Int: 1, Text: "a"}, {Kind: api.VInt, Int: 1, Float: 1}, {Kind: api.VInt, Int: 1, Float: noughts}, {Kind: api.VFloat, Float: 1, Int: 1}, {Kind: api.VString, Text: "a", Int: 1}, times("a", api.MaxString+1),
		copies(whole(1), api.MaxList+1), many(0, api.MaxList+1, whole(1)), set("b", whole(1), "a", whole(1)), set("a", whole(1), "a", whole(1)), {Kind: api.VSet, Names: []string{"a"}}, {Kind: api.VSet, Items: []api.Value{whole(1)}}, {Kind: api.VSet, Names: []string{"start", "stop"}, Items: []api.Value{text("a")}},
		set("start", text("a"), "after", list()), set(strings.Repeat("a", api.MaxString+1), whole(1)), list(truth(2)), set("a", times("a", api.MaxString+1)), set("a", api.Value{Kind: 9}), {Kind: api.VList, Names: []string{"a"}, Items: []api.Value{whole(1)}}, {Kind: api.VList, Int: 1}, nested(whole(1), api.MaxDeep+1), nested(whole(1), 1<<16), list(self...),
	}
}

func TestT2WrongValuesAreOfNoType(t *testing.T) {
	for i, v := range wrongValues() {
		for _, s := range rightTypes() {
			if types.Of(s, v) {
				t.Errorf("the wrong value %d is of %q", i, s)
			}
		}
	}
}

func TestT2NamesOfUnits(t *testing.T) {
	for _, name := range []string{"", "a", "stop", "name", "before", "Start", "START", "star", "start ", "starts", "afte", "after\n", "require", "requires.", "wants"} {
		for _, v := range []api.Value{text("a"), list(), list(text("a")), null} {
			if types.Of("unit", set(name, v)) {
				t.Errorf("a set with %q is a unit", name)
			}
		}
	}
}
