package activate_test

import (
	"slices"
	"testing"

	"bootjack/activate"
	"bootjack/api"
	"bootjack/machine"
)

func mustBe(t *testing.T, m *machine.Machine, want api.System) {
	t.Helper()
	if now := m.Observe(); showObserved(now) != showSystem(want) {
		t.Fatalf("the machine is %.500s; must be %.500s", showObserved(now), showSystem(want))
	}
}

func mustRun(t *testing.T, m *machine.Machine, done int, want api.Errno, l ...api.Act) {
	t.Helper()
	if n, e := activate.Run(m, l); n != done || e != want {
		t.Fatalf("Run of %.500s: %d, %d; must be %d, %d", showActs(l), n, e, done, want)
	}
}

func mustGo(t *testing.T, m *machine.Machine, s api.System, want api.Errno) {
	t.Helper()
	if e := activate.To(m, s); e != want {
		t.Fatalf("To %.500s: %d; must be %d", showSystem(s), e, want)
	}
	if want == api.OK {
		mustBe(t, m, s)
		if !activate.Meets(m.Observe(), s) {
			t.Fatalf("it does not meet %.500s", showSystem(s))
		}
	}
}

func TestV3Run(t *testing.T) {
	m := machine.New()
	u, v := unit("u", "x"), unit("v", "x", "u")
	mustRun(t, m, 0, api.OK)
	mustRun(t, m, 5, api.OK, user("b"), user("a"), put(file("f", "x")), start(u), start(v))
	mustBe(t, m, api.System{Files: entries(file("f", "x")), Users: []string{"a", "b"}, Units: units(u, v)})
	mustRun(t, m, 4, api.OK, stop("u"), remove("f"), drop("a"), remove("f"))
	mustBe(t, m, api.System{Users: []string{"b"}, Units: units(v)})
}

// Run ends at the first error: what is ahead of it is done, and nothing behind.
func TestV3RunUpToAnError(t *testing.T) {
	m := machine.New()
	mustRun(t, m, 2, api.ErrStep, user("a"), user("b"), user(""), user("c"))
	mustBe(t, m, usersOf("a", "b"))
	mustRun(t, m, 0, api.ErrStep, api.Act{}, user("c"))
	mustRun(t, m, 1, api.ErrStep, drop("a"), start(unit("v", "x", "u")), start(unit("u", "x")))
	mustBe(t, m, usersOf("b"))
	m.Plan([]bool{false, true, true})
	u, v := unit("u", "x"), unit("v", "x")
	mustRun(t, m, 2, api.ErrService, user("c"), start(u), start(v), user("d"))
	mustRun(t, m, 0, api.ErrService, start(v))
	mustRun(t, m, 1, api.OK, start(v))
	mustBe(t, m, api.System{Users: []string{"b", "c"}, Units: units(u, v)})
}

// What has no script is done, too, where the machine does it: it looks at no
// more than an act's kind names, and there may be any number of acts.
func TestV3RunOfAnyActs(t *testing.T) {
	m := machine.New()
	a := user("a")
	a.File, a.Unit = file("x", "x"), unit("x", "x")
	l := slices.Repeat(acts(a, drop("a b")), 100)
	mustNotWrite(t, "a file and a unit", a)
	mustRun(t, m, 200, api.OK, l...)
	mustRun(t, m, 200, api.ErrStep, append(l, user(""))...)
	mustBe(t, m, usersOf("a"))
}

func TestV3To(t *testing.T) {
	m := machine.New()
	u, v, w := unit("u", "x"), unit("v", "x", "u"), unit("w", "x")
	one := api.System{Files: entries(file("f", "x"), link("g", "/f")), Users: []string{"a", "b"}, Units: units(u, v)}
	other := api.System{Files: entries(file("f", "y"), file("h/i", "")), Users: []string{"b", "c"}, Units: units(w, u)}
	for _, s := range []api.System{one, one, other, one, {}, {}, other, api.System{}, one} {
		mustGo(t, m, s, api.OK)
	}
	// Not all that is there need be a tree.
	mustRun(t, m, 3, api.OK, put(file("h", "")), put(file("h/i", "x")), put(file("f/f/f/f", "")))
	mustGo(t, m, other, api.OK)
	mustRun(t, m, 1, api.OK, stop("u"))
	mustGo(t, m, other, api.OK)
	mustRun(t, m, 2, api.OK, stop("w"), start(unit("z", "x", "u")))
	mustGo(t, m, one, api.OK)
	mustRun(t, m, 1, api.OK, stop("u"))
	mustGo(t, m, one, api.OK)
}

// A machine that is full becomes another full one: what goes makes room first.
func TestV4FullMachines(t *testing.T) {
	m := machine.New()
	for k := range api.MaxEntries {
		mustRun(t, m, 1, api.OK, put(file("old"+string(rune('a'+k)), "")))
	}
	for _, name := range manyUsers(api.MaxUsers) {
		mustRun(t, m, 1, api.OK, user("old"+name))
	}
	for _, u := range manyUnits(api.MaxUnits) {
		u.Name = "old" + u.Name
		mustRun(t, m, 1, api.OK, start(u))
	}
	s := api.System{Files: manyFiles(23), Users: manyUsers(api.MaxUsers), Units: manyUnits(api.MaxUnits)}
	mustGo(t, m, s, api.OK)
	for k := range s.Units {
		s.Units[k].Start = "y"
	}
	slices.Reverse(s.Units)
	mustGo(t, m, s, api.OK)
}

// Of a system that may not be nothing is done, and nothing tried (R2).
func TestV3ToWhatMayNotBe(t *testing.T) {
	m := machine.New()
	was := api.System{Files: entries(file("f", "x")), Users: []string{"a"}, Units: units(unit("u", "x"))}
	mustGo(t, m, was, api.OK)
	m.Plan([]bool{true})
	for _, s := range []api.System{
		usersOf(""), usersOf("b", "a"), usersOf(manyUsers(17)...),
		filesOf(file("", "")), filesOf(manyFiles(24)...), filesOf(link("a", "b")),
		unitsOf(unit("a", "")), unitsOf(unit("a", "x", "b"), unit("b", "x")), unitsOf(unit("u", "x"), unit("u", "x")),
		{Files: was.Files, Users: was.Users, Units: units(unit("u", "x"), unit("v", "x", "w"))},
	} {
		mustGo(t, m, s, api.ErrStep)
		mustBe(t, m, was)
	}
	mustRun(t, m, 0, api.ErrService, stop("u"))
	mustRun(t, m, 1, api.OK, stop("u"))
}

// Where services fail, the machine stays between, To again goes on from there,
// and To of another system leads there.
func TestV4ServicesThatFail(t *testing.T) {
	u, v, w, x := unit("u", "x"), unit("v", "x", "u"), unit("w", "x"), unit("x", "x", "w")
	one := api.System{Files: entries(file("f", "x")), Users: []string{"a"}, Units: units(u, v)}
	other := api.System{Files: entries(file("g", "x")), Users: []string{"b"}, Units: units(w, x)}
	m := machine.New()
	mustGo(t, m, one, api.OK)
	m.Plan([]bool{false, true, false, false, true, false})
	mustGo(t, m, other, api.ErrService)
	mustBe(t, m, api.System{Files: one.Files, Users: one.Users, Units: units(u)})
	mustGo(t, m, other, api.ErrService)
	mustBe(t, m, api.System{Files: other.Files, Users: other.Users, Units: units(w)})
	mustGo(t, m, other, api.OK)
	m.Plan([]bool{false, false, true})
	mustGo(t, m, one, api.ErrService)
	mustBe(t, m, api.System{Files: one.Files, Users: one.Users})
	mustGo(t, m, other, api.OK)
	m.Plan([]bool{true, true})
	mustGo(t, m, one, api.ErrService)
	mustBe(t, m, other)
	mustGo(t, m, other, api.OK)
	mustGo(t, m, one, api.ErrService)
	mustBe(t, m, other)
	mustGo(t, m, one, api.OK)
}

// The units at the beginning that are the same are not tried: what is planned
// is left for those behind.
func TestV4SameUnitsRunOn(t *testing.T) {
	a, b, c, d := unit("a", "x"), unit("b", "x", "a"), unit("c", "x"), unit("d", "x", "b")
	m := machine.New()
	mustGo(t, m, unitsOf(a, b, c), api.OK)
	m.Plan([]bool{true, true})
	mustGo(t, m, unitsOf(a, b, c), api.OK)
	mustGo(t, m, api.System{Files: entries(file("f", "")), Users: []string{"u"}, Units: units(a, b, c)}, api.OK)
	mustGo(t, m, unitsOf(a, b, c, d), api.ErrService)
	mustBe(t, m, unitsOf(a, b, c))
	mustGo(t, m, unitsOf(a, b), api.ErrService)
	mustBe(t, m, unitsOf(a, b, c))
	mustGo(t, m, unitsOf(a, b, d), api.OK)
}
