package activate_test

import (
	"slices"
	"testing"

	"bootjack/activate"
	"bootjack/api"
)

func mustAct(t *testing.T, now api.Observed, s api.System, want ...api.Act) {
	t.Helper()
	if l := activate.Acts(now, s); showActs(l) != showActs(want) {
		t.Errorf("Acts of %.300s and %.300s: %.500s; must be %.500s", showObserved(now), showSystem(s), showActs(l), showActs(want))
	}
}

func TestV2Example(t *testing.T) {
	u, v, w := unit("u", "y"), unit("v", "z"), unit("w", "x")
	now := api.Observed{Users: []string{"a"}, Running: units(u, v)}
	mustAct(t, now, api.System{Users: []string{"b"}, Units: units(u, w)}, stop("v"), drop("a"), user("b"), start(w))
}

func TestV2Order(t *testing.T) {
	a, b, c, d, e := unit("a", "x"), unit("b", "x"), unit("c", "x"), unit("d", "x", "c"), unit("e", "x")
	now := api.Observed{
		Files:   entries(file("f1", ""), file("f2", "old"), file("f3", "same"), link("f4", "/old"), file("f5", "")),
		Users:   []string{"u1", "u2", "u4", "u6"},
		Running: units(e, b, a),
	}
	s := api.System{
		Files: entries(file("f0", ""), file("f2", "new"), file("f3", "same"), link("f4", "/new"), link("f6", "/")),
		Users: []string{"u0", "u2", "u3", "u5", "u6"},
		Units: units(e, c, d, b),
	}
	mustAct(t, now, s,
		stop("a"), stop("b"),
		remove("f1"), remove("f5"),
		drop("u1"), drop("u4"),
		put(s.Files[0]), put(s.Files[1]), put(s.Files[3]), put(s.Files[4]),
		user("u0"), user("u3"), user("u5"),
		start(c), start(d), start(b))
	mustAct(t, observed(s), s)
	mustAct(t, api.Observed{}, s,
		put(s.Files[0]), put(s.Files[1]), put(s.Files[2]), put(s.Files[3]), put(s.Files[4]),
		user("u0"), user("u2"), user("u3"), user("u5"), user("u6"),
		start(e), start(c), start(d), start(b))
	mustAct(t, now, api.System{},
		stop("a"), stop("b"), stop("e"),
		remove("f1"), remove("f2"), remove("f3"), remove("f4"), remove("f5"),
		drop("u1"), drop("u2"), drop("u4"), drop("u6"))
	mustAct(t, api.Observed{}, api.System{})
}

func TestV2Units(t *testing.T) {
	a, b, c := unit("a", "x"), unit("b", "x"), unit("c", "x")
	other := unit("b", "y")
	for _, x := range []struct {
		now, fresh []api.Unit
		want       []api.Act
	}{
		{units(a, b, c), units(a, b, c), nil},
		{units(a, b), units(a, b, c), acts(start(c))},
		{units(a, b, c), units(a, b), acts(stop("c"))},
		{units(a, b, c), units(a, c), acts(stop("c"), stop("b"), start(c))},
		{units(a, c), units(a, b, c), acts(stop("c"), start(b), start(c))},
		{units(a, b, c), units(b, c), acts(stop("c"), stop("b"), stop("a"), start(b), start(c))},
		{units(a, b), units(b, a), acts(stop("b"), stop("a"), start(b), start(a))},
		{units(a, b, c), units(a, other, c), acts(stop("c"), stop("b"), start(other), start(c))},
		{units(), units(a), acts(start(a))},
		{units(a), units(), acts(stop("a"))},
		{units(a, b, c), units(c, b, a), acts(stop("c"), stop("b"), stop("a"), start(c), start(b), start(a))},
	} {
		mustAct(t, api.Observed{Running: x.now}, unitsOf(x.fresh...), x.want...)
	}
}

// Two units are the same, if all their fields are, item by item.
func TestV2SameUnits(t *testing.T) {
	a, b := unit("a", "x"), unit("b", "x")
	u := api.Unit{Name: "u", Start: "x", Requires: []string{"a", "b"}, After: []string{"c", "d"}}
	mustAct(t, api.Observed{Running: units(a, b, u)}, unitsOf(a, b, u))
	for _, change := range []func(*api.Unit){
		func(v *api.Unit) { v.Start = "y" },
		func(v *api.Unit) { v.Start = "X" },
		func(v *api.Unit) { v.Requires = []string{"b", "a"} },
		func(v *api.Unit) { v.Requires = []string{"a"} },
		func(v *api.Unit) { v.Requires = []string{"a", "b", "b"} },
		func(v *api.Unit) { v.Requires = nil },
		func(v *api.Unit) { v.After = []string{"d", "c"} },
		func(v *api.Unit) { v.After = []string{"c"} },
		func(v *api.Unit) { v.After = []string{"c", "d", "d"} },
		func(v *api.Unit) { v.After = nil },
		func(v *api.Unit) { v.Requires, v.After = nil, []string{"a", "b", "c", "d"} },
	} {
		v := u
		change(&v)
		mustAct(t, api.Observed{Running: units(a, b, v)}, unitsOf(a, b, u), stop("u"), start(u))
		mustAct(t, api.Observed{Running: units(a, b, u)}, unitsOf(a, b, v), stop("u"), start(v))
	}
	v := u
	v.Name = "v"
	mustAct(t, api.Observed{Running: units(a, b, v)}, unitsOf(a, b, u), stop("v"), start(u))
	mustAct(t, api.Observed{Running: units(api.Unit{Name: "a", Start: "x", Requires: []string{}, After: []string{}})}, unitsOf(a))
}

func TestV2Files(t *testing.T) {
	empty := api.Entry{Path: "a", Kind: api.KindFile}
	for _, x := range []struct {
		now, fresh []api.Entry
		want       []api.Act
	}{
		{entries(file("a", "x")), entries(file("a", "y")), acts(put(file("a", "y")))},
		{entries(file("a", "x")), entries(file("a", "")), acts(put(file("a", "")))},
		{entries(file("a", "/x")), entries(link("a", "/x")), acts(put(link("a", "/x")))},
		{entries(link("a", "/x")), entries(file("a", "/x")), acts(put(file("a", "/x")))},
		{entries(file("a", "")), entries(empty), nil},
		{entries(empty), entries(file("a", "")), nil},
		{entries(file("a", "x")), entries(file("b", "x")), acts(remove("a"), put(file("b", "x")))},
		{entries(file("a", ""), file("a/b", "")), entries(file("a/b", "")), acts(remove("a"))},
		{entries(file("a", "")), entries(file("a/b", "")), acts(remove("a"), put(file("a/b", "")))},
	} {
		mustAct(t, api.Observed{Files: x.now}, filesOf(x.fresh...), x.want...)
	}
}

// What is observed need not be what a machine has: what is told of it rises
// anyway.
func TestV2ObservedByHand(t *testing.T) {
	now := api.Observed{
		Files:   entries(file("z", ""), file("", ""), file("k", "old"), file("b", ""), file("k", "x")),
		Users:   []string{"z", "k", "", "b", "a b"},
		Running: units(unit("", ""), unit("a", "x"), unit("a", "y")),
	}
	s := api.System{Files: entries(file("a", ""), file("k", "x"), file("l", "")), Users: []string{"a", "k", "l"}, Units: units(unit("a", "x"))}
	mustAct(t, now, s,
		stop("a"), stop("a"), stop(""),
		remove(""), remove("b"), remove("z"),
		drop(""), drop("a b"), drop("b"), drop("z"),
		put(file("a", "")), put(file("l", "")),
		user("a"), user("l"),
		start(unit("a", "x")))
}

// As many steps as there may be still have a script.
func TestV2MostSteps(t *testing.T) {
	now := api.Observed{
		Files:   many(api.MaxEntries, func(name string) api.Entry { return file("old"+name, "") }),
		Users:   many(api.MaxUsers, func(name string) string { return "old" + name }),
		Running: many(api.MaxUnits, func(name string) api.Unit { return unit("old"+name, "x") }),
	}
	s := api.System{Files: manyFiles(23), Users: manyUsers(api.MaxUsers), Units: manyUnits(api.MaxUnits)}
	l := activate.Acts(now, s)
	if len(l) != 24+24+16+23+16+24 {
		t.Fatalf("%d steps", len(l))
	}
	if again, e := activate.Parse(activate.Text(l)); e != api.OK || showActs(again) != showActs(l) {
		t.Errorf("Parse of the script: %d, %s", e, showActs(again))
	}
	if !slices.IsSortedFunc(l, func(a, b api.Act) int { return a.Kind - b.Kind }) {
		t.Errorf("the steps are %s", showActs(l))
	}
}

func TestV2NoSuchSystem(t *testing.T) {
	now := api.Observed{Files: entries(file("a", "")), Users: []string{"a"}, Running: units(unit("a", "x"))}
	for _, s := range []api.System{usersOf("b", "a"), unitsOf(unit("a", "")), filesOf(file("a/", "")), filesOf(manyFiles(24)...)} {
		mustAct(t, now, s)
	}
}
