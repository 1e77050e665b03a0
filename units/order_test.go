package units_test

import (
	"fmt"
	"slices"
	"strings"
	"testing"

	"bootjack/api"
	"bootjack/units"
)

// unit is one by short forms: names stand with blanks between.
func unit(name, requires, after string) api.Unit {
	return api.Unit{Name: name, Start: "run " + name, Requires: strings.Fields(requires), After: strings.Fields(after)}
}

// list is units by lines: a name, what it requires, and what it stands behind,
// with colons between.
func list(lines ...string) []api.Unit {
	var out []api.Unit
	for _, s := range lines {
		f := strings.Split(s+"::", ":")
		out = append(out, unit(f[0], f[1], f[2]))
	}
	return out
}

func namesOf(l []api.Unit) string {
	var out []string
	for _, u := range l {
		out = append(out, u.Name)
	}
	return strings.Join(out, " ")
}

func sameUnit(a, b api.Unit) bool {
	return a.Name == b.Name && a.Start == b.Start && slices.Equal(a.Requires, b.Requires) && slices.Equal(a.After, b.After)
}

func sameUnits(a, b []api.Unit) bool { return slices.EqualFunc(a, b, sameUnit) }

// numbered is so many units of names that rise.
func numbered(n int) []api.Unit {
	var out []api.Unit
	for i := range n {
		out = append(out, unit(fmt.Sprintf("u%02d", i), "", ""))
	}
	return out
}

func TestS1Order(t *testing.T) {
	for _, c := range []struct {
		l    []api.Unit
		want string
	}{
		{nil, ""},
		{[]api.Unit{}, ""},
		{list("a"), "a"},
		{list("b", "a"), "a b"},
		{list("c::a", "b", "a:b"), "b a c"},
		{list("a:b", "b:c", "c"), "c b a"},
		{list("a::b", "b::c", "c"), "c b a"},
		{list("a::b", "b", "c"), "b a c"},
		{list("d", "a:d", "b", "c"), "b c d a"},
		{list("a::x"), "a"},
		{list("b::x", "a"), "a b"},
		{list("a:b b:b", "b"), "b a"},
		{list("b", "B", "a1", "a", "a-", "aa"), "B a a- a1 aa b"},
		{list("", "a:"), " a"},
		{[]api.Unit{unit("a", "", ""), {Name: "b", Requires: []string{""}}, {Name: ""}}, " a b"},
		{[]api.Unit{{Name: "a", After: []string{"\xff"}}, {Name: "\xff"}, {Name: "é"}}, "é \xff a"},
		{list("one:two", "two::three", "three", "four:one"), "three two one four"},
	} {
		got, name, e := units.Order(c.l)
		if namesOf(got) != c.want || name != "" || e != api.OK || len(got) != len(c.l) {
			t.Errorf("Order of %v: %q, %q, %d; want %q", c.l, namesOf(got), name, e, c.want)
		}
	}
}

// A unit is answered with all that it is.
func TestS1WholeUnits(t *testing.T) {
	b := api.Unit{Name: "b", Start: "\x00 x\xff", Requires: []string{"a", "a"}, After: []string{"z", "", "a"}}
	got, _, _ := units.Order([]api.Unit{b, {Name: "a"}})
	if !sameUnits(got, []api.Unit{{Name: "a"}, b}) {
		t.Errorf("Order: %+v", got)
	}
}

func TestS1Errors(t *testing.T) {
	for _, c := range []struct {
		l    []api.Unit
		name string
		e    api.Errno
	}{
		{numbered(25), "", api.ErrMany},
		{make([]api.Unit, 25), "", api.ErrMany},
		{append(numbered(24), unit("u00", "x", "")), "", api.ErrMany},
		{list("b", "a", "b"), "b", api.ErrTwice},
		{list("a", "b", "c", "c", "a"), "c", api.ErrTwice},
		{list("a", "b", "b", "a"), "b", api.ErrTwice},
		{list("a:x", "b", "b::b"), "b", api.ErrTwice},
		{list("", ""), "", api.ErrTwice},
		{list("a:x"), "a", api.ErrUnit},
		{list("z:q", "a:r"), "a", api.ErrUnit},
		{list("a::z", "z:q"), "z", api.ErrUnit},
		{list("c:a x", "b:a", "a"), "c", api.ErrUnit},
		{list("a::a", "b:x"), "b", api.ErrUnit},
		{[]api.Unit{unit("a", "", ""), {Name: "b", Requires: []string{""}}}, "b", api.ErrUnit},
		{list("A", "a:B", "b:C"), "a", api.ErrUnit},
		{list("a::a"), "a", api.ErrCycle},
		{list("a:a"), "a", api.ErrCycle},
		{list("a::b", "b::a", "c"), "a", api.ErrCycle},
		{list("a", "c:b", "b:c"), "b", api.ErrCycle},
		{list("z:y", "y:z", "b:z", "a"), "b", api.ErrCycle},
		{list("z:y", "y::z", "b:a", "a"), "y", api.ErrCycle},
		{list("a:b", "b:c", "c:d", "d:a"), "a", api.ErrCycle},
		{[]api.Unit{{Name: "", After: []string{""}}}, "", api.ErrCycle},
	} {
		got, name, e := units.Order(c.l)
		if len(got) != 0 || name != c.name || e != c.e {
			t.Errorf("Order of %v: %v, %q, %d; want %q, %d", c.l, got, name, e, c.name, c.e)
		}
	}
}

// As many as there may be, each behind the next one.
func TestS1AllThatThereMayBe(t *testing.T) {
	l := numbered(api.MaxUnits)
	for i := range len(l) - 1 {
		l[i].Requires = []string{l[i+1].Name}
	}
	got, name, e := units.Order(l)
	slices.Reverse(l)
	if e != api.OK || name != "" || !sameUnits(got, l) {
		t.Errorf("Order: %q, %q, %d", namesOf(got), name, e)
	}
	l[0].After = []string{l[api.MaxUnits-1].Name}
	if got, name, e := units.Order(l); len(got) != 0 || name != "u00" || e != api.ErrCycle {
		t.Errorf("Order of a ring: %q, %q, %d", namesOf(got), name, e)
	}
}
