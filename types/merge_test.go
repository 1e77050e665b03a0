package types_test

import (
	"fmt"
	"math"
	"strings"
	"testing"

	"bootjack/api"
	"bootjack/types"
	"bootjack/value"
)

func showDefs(l []api.Def) string {
	s := ""
	for _, d := range l {
		s += fmt.Sprintf("%.100s %d %d; ", value.Show(d.Value), d.Priority, d.Order)
	}
	return s
}

func mustMerge(t *testing.T, s string, l []api.Def, want api.Value) {
	t.Helper()
	if v, e := types.Merge(s, l); e != api.OK || !value.Same(v, want) {
		t.Errorf("Merge(%q, %.300s) = %.200s, %d; want %.200s", s, showDefs(l), value.Show(v), e, value.Show(want))
	}
}

func mustNotMerge(t *testing.T, s string, l []api.Def, want api.Errno) {
	t.Helper()
	if v, e := types.Merge(s, l); e != want || !value.Same(v, api.Value{}) {
		t.Errorf("Merge(%.100q, %.300s) = %.200s, %d; want %d", s, showDefs(l), value.Show(v), e, want)
	}
}

func TestT3Arguments(t *testing.T) {
	for _, s := range wrongTypes() {
		mustNotMerge(t, s, nil, api.ErrArg)
		mustNotMerge(t, s, defs(whole(1)), api.ErrArg)
	}
	for _, s := range rightTypes() {
		mustNotMerge(t, s, nil, api.ErrUnset)
		mustNotMerge(t, s, []api.Def{}, api.ErrUnset)
		mustNotMerge(t, s, defs(null), api.ErrType)
		mustNotMerge(t, s, defs(function), api.ErrType)
	}
	// A wrong value counts, though its definition may not.
	for _, w := range wrongValues() {
		mustNotMerge(t, "int", defs(w), api.ErrArg)
		mustNotMerge(t, "int", []api.Def{def(whole(1), 1, 1), def(w, 2, 1)}, api.ErrArg)
		mustNotMerge(t, "int", []api.Def{def(w, 2, 1), def(text("a"), 1, 1)}, api.ErrArg)
		mustNotMerge(t, "attrs int", defs(set("a", whole(1)), set("a", whole(2)), w), api.ErrArg)
	}
}

func TestT3PriorityAndOrder(t *testing.T) {
	one, two, a, b, c := whole(1), whole(2), text("a"), text("b"), text("c")
	mustMerge(t, "int", []api.Def{def(one, 1000, 0), def(two, 100, 0)}, two)
	mustMerge(t, "int", []api.Def{def(two, 100, 0), def(one, 1000, 0)}, two)
	mustMerge(t, "int", []api.Def{def(one, lowest, 0), def(two, highest, 0)}, one)
	mustMerge(t, "int", []api.Def{def(two, highest, 0), def(one, lowest, 0)}, one)
	mustMerge(t, "int", []api.Def{def(two, 0, 0), def(one, -1, 0)}, one)
	mustMerge(t, "int", []api.Def{def(two, highest, 0)}, two)
	// What does not count may be of another type, or in conflict, or too long.
	mustMerge(t, "int", []api.Def{def(a, 101, 0), def(one, 100, 0), def(null, 101, 0)}, one)
	mustMerge(t, "int", []api.Def{def(two, 101, 0), def(one, 101, 0), def(one, 100, 0), def(one, 100, 0)}, one)
	mustMerge(t, "lines", []api.Def{def(times("a", 1024), 3, 0), def(times("a", 1024), 2, 0)}, times("a", 1024))
	mustNotMerge(t, "int", []api.Def{def(one, 101, 0), def(a, 100, 0)}, api.ErrType)
	mustNotMerge(t, "int", []api.Def{def(one, 100, 0), def(a, 100, 1)}, api.ErrType)
	mustNotMerge(t, "int", []api.Def{def(one, 100, 0), def(two, 100, 1), def(a, 100, 2)}, api.ErrType)
	// By rising order, and else as they stood.
	mustMerge(t, "lines", []api.Def{def(a, 1, 1000), def(b, 1, 500)}, text("b\na"))
	mustMerge(t, "lines", []api.Def{def(a, 1, 1000), def(b, 1, 500), def(c, 1, 500)}, text("b\nc\na"))
	mustMerge(t, "lines", []api.Def{def(a, 1, 1000), def(c, 1, 500), def(b, 1, 500)}, text("c\nb\na"))
	mustMerge(t, "lines", []api.Def{def(a, 1, highest), def(b, 1, lowest), def(c, 1, 0)}, text("b\nc\na"))
	mustMerge(t, "lines", []api.Def{def(a, 1, 1), def(b, 1, -1), def(c, 0, 9)}, c)
	mustMerge(t, "list int", []api.Def{def(list(one), 1, 2), def(list(two), 1, 1), def(list(one), 2, 0)}, list(two, one))
	mustMerge(t, "float", []api.Def{def(real(0), 1, 2), def(real(noughts), 1, 1)}, real(noughts))
	mustMerge(t, "attrs lines", []api.Def{def(set("n", a), 1, 2), def(set("n", b), 1, 1), def(set("m", c), 1, 0), def(set("n", c), 1, 1)}, set("m", c, "n", text("b\nc\na")))
	mustMerge(t, "unit", []api.Def{def(set("after", list(a, b)), 1, 2), def(set("after", list(b, c)), 1, 1)}, set("after", list(b, c, a), "requires", list(), "start", text("")))
	var l []api.Def
	want := ""
	for i := range 100 {
		l = append(l, def(text(numbered(i)), 7, int64(i%2)))
	}
	for i := 0; i < 200; i += 2 {
		want += "\n" + numbered(i%100+i/100)
	}
	mustMerge(t, "lines", l, text(want[1:]))
}

func TestT3OneValue(t *testing.T) {
	for _, c := range []struct {
		t string
		v []api.Value // all different
	}{
		{"bool", []api.Value{truth(0), truth(1)}},
		{"int", []api.Value{whole(0), whole(1), whole(lowest), whole(highest), whole(even), whole(even + 1)}},
		{"int 0 9", []api.Value{whole(0), whole(9)}},
		{"float", []api.Value{real(0), real(1), real(inf), real(-inf), real(math.MaxFloat64)}},
		{"string", []api.Value{text(""), text("a"), text("b"), text("a\n"), times("a", 1024)}},
		{"enum a b -", []api.Value{text("a"), text("b"), text("-")}},
	} {
		for i, v := range c.v {
			mustMerge(t, c.t, defs(v), v)
			mustMerge(t, c.t, defs(v, v), v)
			mustMerge(t, c.t, defs(v, v, v), v)
			for k, w := range c.v {
				if i != k {
					mustNotMerge(t, c.t, defs(v, w), api.ErrConflict)
					mustNotMerge(t, c.t, defs(v, v, w), api.ErrConflict)
					mustNotMerge(t, c.t, defs(v, w, v), api.ErrConflict)
				}
			}
		}
	}
}

func TestT3Floats(t *testing.T) {
	mustMerge(t, "float", defs(whole(1)), real(1))
	mustMerge(t, "float", defs(whole(0)), real(0))
	mustMerge(t, "float", defs(whole(-3), real(-3)), real(-3))
	mustMerge(t, "float", defs(real(-3), whole(-3)), real(-3))
	mustMerge(t, "float", defs(whole(1), whole(1)), real(1))
	mustNotMerge(t, "float", defs(whole(1), whole(2)), api.ErrConflict)
	mustNotMerge(t, "float", defs(whole(1), real(1.5)), api.ErrConflict)
	mustNotMerge(t, "float", defs(real(1.5), whole(1)), api.ErrConflict)
	mustMerge(t, "float", defs(real(noughts)), real(noughts))
	mustMerge(t, "float", defs(real(noughts), real(0), whole(0)), real(noughts))
	mustMerge(t, "float", defs(whole(0), real(noughts)), real(0))
	mustMerge(t, "float", defs(real(nan)), real(nan))
	mustNotMerge(t, "float", defs(real(nan), real(nan)), api.ErrConflict)
	mustNotMerge(t, "float", defs(real(nan), whole(0)), api.ErrConflict)
	mustNotMerge(t, "float", defs(real(0), real(nan)), api.ErrConflict)
	// The nearest float, and of two as near the one whose last bit is 0.
	mustMerge(t, "float", defs(whole(even+1)), real(even))
	mustMerge(t, "float", defs(whole(even+3)), real(even+4))
	mustMerge(t, "float", defs(whole(highest)), real(1<<63))
	mustMerge(t, "float", defs(whole(lowest)), real(-1<<63))
	// Two ints are held against each other as ints.
	mustNotMerge(t, "float", defs(whole(even), whole(even+1)), api.ErrConflict)
	mustMerge(t, "float", defs(whole(even+1), real(even)), real(even))
	mustMerge(t, "float", defs(real(even), whole(even+1), whole(even)), real(even))
	mustNotMerge(t, "float", defs(whole(even), real(even), whole(even+1)), api.ErrConflict)
	// So it is within a set, but not within a list.
	mustMerge(t, "attrs float", defs(set("a", whole(1), "b", real(2)), set("a", real(1))), set("a", real(1), "b", real(2)))
	mustNotMerge(t, "attrs float", defs(set("a", real(nan)), set("a", real(nan))), api.ErrConflict)
	mustMerge(t, "list float", defs(list(whole(1), real(2)), list(whole(1))), list(whole(1), real(2), whole(1)))
	mustMerge(t, "list attrs float", defs(list(set("a", whole(1)))), list(set("a", whole(1))))
	mustMerge(t, "attrs list float", defs(set("a", list(whole(1)))), set("a", list(whole(1))))
}

func TestT3Lines(t *testing.T) {
	mustMerge(t, "lines", defs(text("")), text(""))
	mustMerge(t, "lines", defs(text(""), text("")), text("\n"))
	mustMerge(t, "lines", defs(text("a"), text("a")), text("a\na"))
	mustMerge(t, "lines", defs(text("a\n"), text("\nb"), text("c")), text("a\n\n\nb\nc"))
	mustMerge(t, "lines", defs(times("a", 1024)), times("a", 1024))
	mustNotMerge(t, "lines", defs(times("a", 1024), text("")), api.ErrLong)
	mustMerge(t, "lines", defs(times("a", 1023), text("")), text(strings.Repeat("a", 1023)+"\n"))
	mustMerge(t, "lines", defs(times("a", 600), times("b", 423)), text(strings.Repeat("a", 600)+"\n"+strings.Repeat("b", 423)))
	mustNotMerge(t, "lines", defs(times("a", 600), times("b", 424)), api.ErrLong)
	mustMerge(t, "lines", defs(copies(text(""), 256).Items...), times("\n", 255))
	var l []api.Value
	for range 1025 {
		l = append(l, text(""))
	}
	mustMerge(t, "lines", defs(l...), times("\n", 1024))
	mustNotMerge(t, "lines", defs(append(l, text(""))...), api.ErrLong)
	mustNotMerge(t, "lines", defs(times("a", 1024), times("a", 1024), null), api.ErrType)
}

func TestT3Lists(t *testing.T) {
	one, two := whole(1), whole(2)
	mustMerge(t, "list int", defs(list()), list())
	mustMerge(t, "list int", defs(list(), list()), list())
	mustMerge(t, "list int", defs(list(one, two), list(), list(one)), list(one, two, one))
	mustMerge(t, "list int", defs(copies(one, 256)), copies(one, 256))
	mustMerge(t, "list int", defs(copies(one, 256), list()), copies(one, 256))
	mustMerge(t, "list int", defs(copies(one, 100), copies(one, 156)), copies(one, 256))
	mustNotMerge(t, "list int", defs(copies(one, 256), list(one)), api.ErrLong)
	mustNotMerge(t, "list int", defs(copies(one, 100), copies(one, 157)), api.ErrLong)
	mustNotMerge(t, "list int", defs(list(one), list(text("a"))), api.ErrType)
	mustNotMerge(t, "list int", defs(copies(one, 256), copies(one, 256), one), api.ErrType)
	mustMerge(t, "list list int", defs(list(list(one)), list(list(two), list())), list(list(one), list(two), list()))
	mustMerge(t, "list lines", defs(list(text("a")), list(text("b"))), list(text("a"), text("b")))
	mustMerge(t, "list attrs int", defs(list(set("a", one)), list(set("a", two))), list(set("a", one), set("a", two)))
	mustMerge(t, "list unit", defs(list(set()), list(set("requires", list(text("x"), text("x"))))), list(set(), set("requires", list(text("x"), text("x")))))
}

func TestT3Attrs(t *testing.T) {
	one, two := whole(1), whole(2)
	mustMerge(t, "attrs int", defs(set()), set())
	mustMerge(t, "attrs int", defs(set(), set()), set())
	mustMerge(t, "attrs int", defs(set("b", two), set("a", one), set()), set("a", one, "b", two))
	mustMerge(t, "attrs int", defs(set("a", one, "c", one), set("b", two, "c", one)), set("a", one, "b", two, "c", one))
	mustMerge(t, "attrs int", defs(set("z", one), set("Z", two), set("\xff", one), set("", two), set("zz", one)), set("", two, "Z", two, "z", one, "zz", one, "\xff", one))
	mustMerge(t, "attrs list int", defs(set("a", list(one)), set("a", list(two), "b", list())), set("a", list(one, two), "b", list()))
	mustMerge(t, "attrs attrs lines", defs(set("a", set("x", text("1"))), set("a", set("w", text("3"), "x", text("2")))), set("a", set("w", text("3"), "x", text("1\n2"))))
	mustMerge(t, "attrs unit", defs(set("n", set()), set("n", set("start", text("s")))), set("n", set("after", list(), "requires", list(), "start", text("s"))))
	mustMerge(t, "attrs enum a b", defs(set("n", text("a")), set("n", text("a")), set("m", text("b"))), set("m", text("b"), "n", text("a")))
	mustNotMerge(t, "attrs int", defs(set("a", one), set("a", two)), api.ErrConflict)
	mustNotMerge(t, "attrs int", defs(set("a", one), set("a", text("x"))), api.ErrType)
	mustNotMerge(t, "attrs int", defs(set("a", one), set("a", two), set("b", null)), api.ErrType)
	mustNotMerge(t, "attrs list int", defs(set("a", copies(one, 256)), set("a", list(one))), api.ErrLong)
	// The first error by rising names, not by the definitions' order.
	long, clash := texts(0, 200), text("x")
	first := set("a", set("after", long), "b", set("start", text("y")))
	mustNotMerge(t, "attrs unit", defs(first, set("b", set("start", clash)), set("a", set("after", texts(200, 57)))), api.ErrLong)
	first = set("a", set("start", text("y")), "b", set("after", long))
	mustNotMerge(t, "attrs unit", defs(first, set("b", set("after", texts(200, 57))), set("a", set("start", clash))), api.ErrConflict)
	mustMerge(t, "attrs int", defs(many(0, 256, one)), many(0, 256, one))
	mustMerge(t, "attrs int", defs(many(0, 200, one), many(100, 156, one)), many(0, 256, one))
	mustNotMerge(t, "attrs int", defs(many(0, 200, one), many(100, 157, one)), api.ErrLong)
	mustNotMerge(t, "attrs int", defs(many(0, 256, one), set("a", one)), api.ErrLong)
	// Too many names go ahead of what one of them tells, and a wrong type ahead of both.
	mustNotMerge(t, "attrs int", defs(many(0, 200, one), many(100, 157, two)), api.ErrLong)
	mustNotMerge(t, "attrs int", defs(many(0, 200, one), many(100, 156, two)), api.ErrConflict)
	mustNotMerge(t, "attrs int", defs(many(0, 200, one), many(100, 157, null)), api.ErrType)
	mustNotMerge(t, "attrs attrs int", defs(set("a", many(0, 256, one), "b", set("a", one)), set("a", set("a", one), "b", set("a", two))), api.ErrLong)
	mustNotMerge(t, "attrs attrs int", defs(set("a", set("a", one), "b", many(0, 256, one)), set("a", set("a", two), "b", set("a", one))), api.ErrConflict)
}

func TestT3Units(t *testing.T) {
	x, y, z, none := text("x"), text("y"), text("z"), text("")
	unit := func(after, requires, start api.Value) api.Value {
		return set("after", after, "requires", requires, "start", start)
	}
	mustMerge(t, "unit", defs(set()), unit(list(), list(), none))
	mustMerge(t, "unit", defs(set(), set()), unit(list(), list(), none))
	mustMerge(t, "unit", defs(unit(list(x), list(y), z)), unit(list(x), list(y), z))
	mustMerge(t, "unit", defs(set("requires", list(x, y)), set("requires", list(y, z), "start", text("s"))), unit(list(), list(x, y, z), text("s")))
	mustMerge(t, "unit", defs(set("after", list(z, x)), set(), set("after", list(y, x, z))), unit(list(z, x, y), list(), none))
	mustMerge(t, "unit", defs(set("after", list(x, y, x), "requires", list(y, y, none, none))), unit(list(x, y), list(y, none), none))
	mustMerge(t, "unit", defs(set("after", list(x)), set("requires", list(x))), unit(list(x), list(x), none))
	mustMerge(t, "unit", defs(set("start", x), set(), set("start", x)), unit(list(), list(), x))
	mustMerge(t, "unit", defs(set("start", none), set("start", none)), unit(list(), list(), none))
	mustNotMerge(t, "unit", defs(set("start", x), set("start", y)), api.ErrConflict)
	mustNotMerge(t, "unit", defs(set("start", none), set("start", y)), api.ErrConflict)
	mustNotMerge(t, "unit", defs(set("start", x), set(), set("start", none)), api.ErrConflict)
	mustNotMerge(t, "unit", defs(set("stop", x)), api.ErrType)
	mustNotMerge(t, "unit", defs(set("start", x), set("start", y), set("start", null)), api.ErrType)
	mustNotMerge(t, "unit", defs(set(), set("after", x)), api.ErrType)
	for _, name := range []string{"after", "requires"} {
		whole := unit(list(), list(), none)
		whole.Items[map[string]int{"after": 0, "requires": 1}[name]] = texts(0, 256)
		mustMerge(t, "unit", defs(set(name, texts(0, 256))), whole)
		mustMerge(t, "unit", defs(set(name, texts(0, 200)), set(name, texts(100, 156))), whole)
		mustMerge(t, "unit", defs(set(name, texts(0, 256)), set(name, texts(0, 256))), whole)
		mustNotMerge(t, "unit", defs(set(name, texts(0, 200)), set(name, texts(100, 157))), api.ErrLong)
		mustNotMerge(t, "unit", defs(set(name, texts(0, 256)), set(name, list(x))), api.ErrLong)
		mustNotMerge(t, "unit", defs(set(name, texts(0, 256), "start", x), set(name, list(x), "start", y)), api.ErrLong)
	}
}

// What one definition says is what it makes, where no float and no unit is.
func TestT3OneDefinition(t *testing.T) {
	for _, s := range rightTypes() {
		if strings.Contains(s, "float") || strings.Contains(s, "unit") {
			continue
		}
		for _, v := range someValues() {
			if types.Of(s, v) {
				mustMerge(t, s, defs(v), v)
				mustMerge(t, s, []api.Def{def(null, 2, 0), def(v, 1, 5), def(v, 3, 0)}, v)
			} else {
				mustNotMerge(t, s, defs(v), api.ErrType)
			}
		}
	}
}
