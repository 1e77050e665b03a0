package machine_test

import (
	"math"
	"strings"
	"testing"

	"bootjack/api"
	"bootjack/machine"
)

func TestQ2StartInOrder(t *testing.T) {
	m := machine.New()
	for _, name := range []string{"m", "a", "z", "b"} {
		mustDo(t, m, start(unit(name)))
	}
	mustRun(t, m, "m", "a", "z", "b")
	mustKeep(t, m, start(unit("a")), start(unit("m")), start(unit("b")))
	// What was stopped is the last one, when it is started again.
	mustDo(t, m, stop("a"), start(unit("a")), stop("m"), start(unit("m")))
	mustRun(t, m, "z", "b", "a", "m")
}

func TestQ2StartOfWhatMayNotBe(t *testing.T) {
	m := machine.New()
	mustDo(t, m, start(unit("r")))
	m.Plan([]bool{true})
	for _, name := range []string{"", ".", "..", "a b", "a/b", "a\n", "\xff", strings.Repeat("n", api.MaxName+1)} {
		mustNot(t, m, api.ErrStep,
			start(unit(name)),
			start(unit("a", name)), start(unit("a", "r", name)), start(unit("a", name, "r")),
			start(api.Unit{Name: "a", Start: "x", After: []string{name}}),
			start(api.Unit{Name: "a", Start: "x", After: []string{"r", name}}),
			start(api.Unit{Name: "a", Start: "x", After: []string{name, "q"}}))
	}
	mustNot(t, m, api.ErrStep, start(api.Unit{}), start(api.Unit{Name: "a"}), start(api.Unit{Name: "a", Start: strings.Repeat("x", 121)}))
	mustHaveLeft(t, m, true)
	long := strings.Repeat("n", api.MaxName)
	mustDo(t, m, start(unit(long)), start(api.Unit{Name: "a", Start: strings.Repeat("x", 120), Requires: []string{long}, After: []string{long, "..."}}), start(api.Unit{Name: "b", Start: " "}))
	mustRun(t, m, "r", long, "a", "b")
}

// Each byte, in a Start alone, first, in the midst and last.
func TestQ2StartOfEachByte(t *testing.T) {
	for c := range 256 {
		s := string([]byte{byte(c)})
		for _, text := range []string{s, s + "x", "x" + s + "x", "x" + s} {
			m := machine.New()
			a := start(api.Unit{Name: "a", Start: text})
			if 32 <= c && c <= 126 {
				mustDo(t, m, a)
				mustBe(t, m, api.Observed{Running: []api.Unit{a.Unit}})
			} else {
				mustNot(t, m, api.ErrStep, a)
			}
		}
	}
}

func TestQ2StartOfAnotherName(t *testing.T) {
	m := machine.New()
	mustDo(t, m, start(unit("b")))
	m.Plan([]bool{true})
	for _, name := range []string{"", "b", "c", "A", "aa", "no name"} {
		mustNot(t, m, api.ErrStep, api.Act{Kind: api.StepStart, Name: name, Unit: unit("a")})
	}
	// Nor does it help that the unit runs.
	mustNot(t, m, api.ErrStep, api.Act{Kind: api.StepStart, Name: "", Unit: unit("b")})
	mustHaveLeft(t, m, true)
}

func TestQ2StartOfAnotherOneOfThisName(t *testing.T) {
	m := machine.New()
	u := api.Unit{Name: "u", Start: "x", Requires: []string{"a", "b"}, After: []string{"c", "d"}}
	mustDo(t, m, start(unit("a")), start(unit("b")), start(u))
	m.Plan([]bool{true})
	for _, l := range [][]string{nil, {"a"}, {"b"}, {"b", "a"}, {"a", "b", "b"}, {"a", "a"}} {
		other := u
		other.Requires = l
		mustNot(t, m, api.ErrStep, start(other))
	}
	for _, l := range [][]string{nil, {"c"}, {"d"}, {"d", "c"}, {"c", "d", "d"}, {"c", "c"}} {
		other := u
		other.After = l
		mustNot(t, m, api.ErrStep, start(other))
	}
	for _, s := range []string{"y", "xx", "X", "x ", ""} {
		other := u
		other.Start = s
		mustNot(t, m, api.ErrStep, start(other))
	}
	mustKeep(t, m, start(u))
	// A list without elements is one, nil or not.
	mustKeep(t, m, start(api.Unit{Name: "a", Start: "run", Requires: []string{}, After: []string{}}))
	mustHaveLeft(t, m, true)
	// It has to be stopped ahead.
	mustDo(t, m, stop("u"), start(unit("u")))
	mustBe(t, m, api.Observed{Running: []api.Unit{unit("a"), unit("b"), unit("u")}})
}

func TestQ2StartOfWhatRequires(t *testing.T) {
	m := machine.New()
	m.Plan([]bool{true})
	mustNot(t, m, api.ErrStep, start(unit("u", "a")), start(unit("u", "a", "b")), start(unit("u", "u")))
	mustHaveLeft(t, m, true)
	mustDo(t, m, start(unit("a")))
	mustNot(t, m, api.ErrStep, start(unit("u", "a", "b")), start(unit("u", "b", "a")), start(unit("u", "A")), start(unit("u", "a", "u")))
	mustDo(t, m, start(unit("b")), start(unit("u", "b", "a", "b")), start(unit("v", "u")))
	mustRun(t, m, "a", "b", "u", "v")
	// What it stands after need not run.
	after := api.Unit{Name: "w", Start: "x", After: []string{"x", "w"}}
	mustDo(t, m, start(after))
	mustKeep(t, m, start(after))
}

// A unit that runs, and one that it requires does not: the table names that
// ErrStep ahead of 'nothing, if it runs'.
func TestQ2StartOfWhatRunsWithoutWhatItRequires(t *testing.T) {
	m := machine.New()
	u := unit("u", "a", "b")
	mustDo(t, m, start(unit("a")), start(unit("b")), start(u), stop("b"))
	m.Plan([]bool{true})
	mustNot(t, m, api.ErrStep, start(u))
	mustHaveLeft(t, m, true)
	mustDo(t, m, start(unit("b")))
	mustKeep(t, m, start(u))
	mustRun(t, m, "a", "u", "b")
}

func TestQ2UnitsAreAtMostSoMany(t *testing.T) {
	m := machine.New()
	for k := range api.MaxUnits {
		mustDo(t, m, start(unit(numbered("u", k))))
	}
	m.Plan([]bool{true, false})
	mustNot(t, m, api.ErrStep, start(unit("a")), start(unit("z", "u00")))
	mustKeep(t, m, start(unit("u00")), start(unit("u23")))
	// Neither of them was a try.
	mustNot(t, m, api.ErrService, stop("u05"))
	mustDo(t, m, stop("u05"), start(unit("z", "u00")))
	mustNot(t, m, api.ErrStep, start(unit("u05")))
	if l := m.Observe().Running; len(l) != api.MaxUnits || l[5].Name != "u06" || l[23].Name != "z" {
		t.Error("units are", showAll(l, showUnit))
	}
}

func TestQ2StartIsATry(t *testing.T) {
	m := machine.New()
	m.Plan([]bool{true, false, true, true, false, true})
	mustNot(t, m, api.ErrService, start(unit("a")))
	mustDo(t, m, start(unit("a")))
	mustKeep(t, m, start(unit("a")), start(unit("a")))
	mustNot(t, m, api.ErrStep, start(unit("b", "c")), start(unit("")))
	mustNot(t, m, api.ErrService, start(unit("b", "a")), start(unit("c")))
	mustDo(t, m, start(unit("b", "a")))
	mustRun(t, m, "a", "b")
	mustHaveLeft(t, m, true)
}

// whole has all that an act may have, whatever its kind looks at.
func whole(kind int, name string, f api.Entry, u api.Unit) api.Act {
	return api.Act{Kind: kind, Name: name, File: f, Unit: u}
}

func TestQ2WhatIsNotNamedIsNotLookedAt(t *testing.T) {
	m := machine.New()
	badFile := api.Entry{Path: "/", Kind: 9, Data: []byte(strings.Repeat("x", api.MaxData+1))}
	badUnit := api.Unit{Name: "no name", Requires: []string{"", "x"}, After: []string{""}}
	for _, f := range []api.Entry{badFile, file("u", "x"), file("o", "x")} {
		for _, u := range []api.Unit{badUnit, unit("u"), unit("o")} {
			mustDo(t, m, whole(api.StepFile, "a/b", file("a/b", "y"), u))
			mustBe(t, m, api.Observed{Files: []api.Entry{file("a/b", "y")}})
			mustDo(t, m, whole(api.StepUser, "u", f, u))
			mustBe(t, m, api.Observed{Files: []api.Entry{file("a/b", "y")}, Users: []string{"u"}})
			mustDo(t, m, whole(api.StepStart, "s", f, unit("s")))
			mustBe(t, m, api.Observed{Files: []api.Entry{file("a/b", "y")}, Users: []string{"u"}, Running: []api.Unit{unit("s")}})
			mustKeep(t, m, whole(api.StepStop, "a/b", f, u), whole(api.StepStop, "u", f, unit("s")), whole(api.StepRemove, "u", f, u), whole(api.StepRemove, "s", file("a/b", "y"), u), whole(api.StepDrop, "s", f, u))
			mustDo(t, m, whole(api.StepStop, "s", f, u))
			mustBe(t, m, api.Observed{Files: []api.Entry{file("a/b", "y")}, Users: []string{"u"}})
			mustDo(t, m, whole(api.StepDrop, "u", f, u))
			mustBe(t, m, api.Observed{Files: []api.Entry{file("a/b", "y")}})
			mustDo(t, m, whole(api.StepRemove, "a/b", f, u))
			mustBe(t, m, api.Observed{})
		}
	}
}

func TestQ2AnyOtherKind(t *testing.T) {
	m := machine.New()
	mustDo(t, m, put(file("a", "x")), user("a"), start(unit("a")))
	m.Plan([]bool{true})
	for _, kind := range []int{0, 7, 8, -1, -6, 1 << 8, 1<<8 + 1, 1<<32 + 1, math.MaxInt, math.MinInt, math.MinInt + 1} {
		mustNot(t, m, api.ErrStep, api.Act{Kind: kind}, whole(kind, "a", file("a", "y"), unit("a")), whole(kind, "b", file("b", "y"), unit("b")))
	}
	mustHaveLeft(t, m, true)
}
