package machine_test

import (
	"fmt"
	"math"
	"slices"
	"strings"
	"testing"

	"bootjack/api"
	"bootjack/machine"
)

func file(path, data string) api.Entry {
	return api.Entry{Path: path, Kind: api.KindFile, Data: []byte(data)}
}

func link(path, to string) api.Entry {
	return api.Entry{Path: path, Kind: api.KindLink, Data: []byte(to)}
}

func unit(name string, requires ...string) api.Unit {
	return api.Unit{Name: name, Start: "run", Requires: requires}
}

func stop(name string) api.Act        { return api.Act{Kind: api.StepStop, Name: name} }
func remove(name string) api.Act      { return api.Act{Kind: api.StepRemove, Name: name} }
func drop(name string) api.Act        { return api.Act{Kind: api.StepDrop, Name: name} }
func user(name string) api.Act        { return api.Act{Kind: api.StepUser, Name: name} }
func put(f api.Entry) api.Act         { return api.Act{Kind: api.StepFile, Name: f.Path, File: f} }
func start(u api.Unit) api.Act        { return api.Act{Kind: api.StepStart, Name: u.Name, Unit: u} }
func numbered(s string, k int) string { return fmt.Sprintf("%s%02d", s, k) }

func showFile(f api.Entry) string { return fmt.Sprintf("%q %d %q", f.Path, f.Kind, f.Data) }

func showUnit(u api.Unit) string {
	return fmt.Sprintf("%q %q %q %q", u.Name, u.Start, u.Requires, u.After)
}

func showAll[T any](l []T, show func(T) string) string {
	var words []string
	for _, x := range l {
		words = append(words, show(x))
	}
	return strings.Join(words, ", ")
}

// show takes a list without elements as any other such list.
func show(o api.Observed) string {
	return fmt.Sprintf("files %s; users %q; runs %s", showAll(o.Files, showFile), o.Users, showAll(o.Running, showUnit))
}

// mustDo does acts that must all be answered OK.
func mustDo(t *testing.T, m *machine.Machine, l ...api.Act) {
	t.Helper()
	for _, a := range l {
		if e := m.Do(a); e != api.OK {
			t.Fatalf("Do(%.300v): %d; must be done", a, e)
		}
	}
}

// mustNot does acts that must all be answered an error, and change nothing that
// is observed.
func mustNot(t *testing.T, m *machine.Machine, want api.Errno, l ...api.Act) {
	t.Helper()
	before := show(m.Observe())
	for _, a := range l {
		if e := m.Do(a); e != want {
			t.Fatalf("Do(%.300v): %d; must be %d", a, e, want)
		}
		if now := show(m.Observe()); now != before {
			t.Fatalf("Do(%.300v): %d, and %s; must be %s as ahead of it", a, want, now, before)
		}
	}
}

// mustKeep does acts that must all be answered OK, and change nothing that is
// observed.
func mustKeep(t *testing.T, m *machine.Machine, l ...api.Act) {
	t.Helper()
	before := show(m.Observe())
	for _, a := range l {
		mustDo(t, m, a)
		if now := show(m.Observe()); now != before {
			t.Fatalf("Do(%.300v): %s; must be %s as ahead of it", a, now, before)
		}
	}
}

func mustBe(t *testing.T, m *machine.Machine, want api.Observed) {
	t.Helper()
	if now := show(m.Observe()); now != show(want) {
		t.Fatalf("observed is %s; must be %s", now, show(want))
	}
}

// mustRun holds the names of the units that run, in their order.
func mustRun(t *testing.T, m *machine.Machine, names ...string) {
	t.Helper()
	var l []string
	for _, u := range m.Observe().Running {
		l = append(l, u.Name)
	}
	if !slices.Equal(l, names) {
		t.Fatalf("%q run; must be %q", l, names)
	}
}

func mustUse(t *testing.T, m *machine.Machine, users ...string) {
	t.Helper()
	if l := m.Observe().Users; !slices.Equal(l, users) {
		t.Fatalf("users are %q; must be %q", l, users)
	}
}

func mustHave(t *testing.T, m *machine.Machine, files ...api.Entry) {
	t.Helper()
	if l := showAll(m.Observe().Files, showFile); l != showAll(files, showFile) {
		t.Fatalf("files are %s; must be %s", l, showAll(files, showFile))
	}
}

// mustHaveLeft holds what is left of the plan: the bools are taken off by
// tries, and behind them none fails.
func mustHaveLeft(t *testing.T, m *machine.Machine, plan ...bool) {
	t.Helper()
	// No test has a unit of this name, and so the tries start and stop this one alone.
	probe := unit("probe")
	for k, fails := range append(slices.Clone(plan), false, false) {
		a := start(probe)
		if slices.ContainsFunc(m.Observe().Running, func(u api.Unit) bool { return u.Name == probe.Name }) {
			a = stop(probe.Name)
		}
		if e := m.Do(a); (e == api.ErrService) != fails || e != api.OK && e != api.ErrService {
			t.Fatalf("try %d of the plan that must be left, %v, is answered %d", k, plan, e)
		}
	}
	mustDo(t, m, stop(probe.Name))
}

func TestExamples(t *testing.T) {
	m, u := machine.New(), unit("u")
	mustDo(t, m, start(u), start(u))
	mustNot(t, m, api.ErrStep, start(unit("v", "w")))
	mustBe(t, m, api.Observed{Running: []api.Unit{u}})

	m.Plan([]bool{true, false})
	mustNot(t, m, api.ErrService, stop("u"))
	mustDo(t, m, stop("u"), stop("u"))
	mustBe(t, m, api.Observed{})

	mustDo(t, m, put(file("a", "")), user("x"), remove("a"))
	m.Reset()
	mustBe(t, m, api.Observed{})
}

func TestQ1New(t *testing.T) {
	m := machine.New()
	mustBe(t, m, api.Observed{})
	mustHaveLeft(t, m)
	// Each is one of its own.
	other := machine.New()
	other.Plan([]bool{true})
	mustDo(t, m, put(file("a", "x")), user("u"), start(unit("s")))
	mustBe(t, other, api.Observed{})
	mustHaveLeft(t, other, true)
}

func TestQ1Observe(t *testing.T) {
	m := machine.New()
	full := api.Unit{Name: "w", Start: "w -x ~", Requires: []string{"v", "u", "v"}, After: []string{"z", "a", "z", "w"}}
	mustDo(t, m, put(link("b", "/z")), put(file("a/b", "x\n")), user("y"), user("x"), start(unit("v")), start(unit("u")), start(full))
	mustBe(t, m, api.Observed{
		Files:   []api.Entry{file("a/b", "x\n"), link("b", "/z")},
		Users:   []string{"x", "y"},
		Running: []api.Unit{unit("v"), unit("u"), full},
	})
}

func TestQ1Plan(t *testing.T) {
	m := machine.New()
	for _, l := range [][]bool{nil, {}, {true}, {false}, {true, true, false, true}, {false, false, true}, slices.Repeat([]bool{true, false}, 100)} {
		m.Plan(l)
		mustHaveLeft(t, m, l...)
	}
	// The plan is that which was told last, whole, whatever was left.
	m.Plan([]bool{true, true, true})
	m.Plan([]bool{false, true})
	mustHaveLeft(t, m, false, true)
	m.Plan([]bool{true})
	m.Plan(nil)
	mustHaveLeft(t, m)
	mustBe(t, m, api.Observed{})
}

func TestQ1PlanChangesNothingElse(t *testing.T) {
	m := machine.New()
	mustDo(t, m, put(file("a", "x")), user("u"), start(unit("s")))
	want := m.Observe()
	m.Plan([]bool{true, false})
	mustBe(t, m, want)
	m.Plan(nil)
	mustBe(t, m, want)
}

func TestQ1Reset(t *testing.T) {
	m := machine.New()
	m.Reset()
	mustBe(t, m, api.Observed{})
	mustDo(t, m, put(file("a", "x")), user("u"), start(unit("s")), start(unit("t", "s")))
	m.Plan([]bool{false, true, true})
	mustDo(t, m, stop("t"))
	m.Reset()
	m.Reset()
	mustBe(t, m, api.Observed{})
	mustHaveLeft(t, m, true, true)
	// There is as much room as on a new one, and what ran is not required any more.
	mustNot(t, m, api.ErrStep, start(unit("t", "s")))
	for k := range api.MaxEntries {
		mustDo(t, m, put(file(numbered("f", k), "")), start(unit(numbered("s", k))))
	}
	for k := range api.MaxUsers {
		mustDo(t, m, user(numbered("u", k)))
	}
	m.Reset()
	mustBe(t, m, api.Observed{})
	mustDo(t, m, put(file("a", "")), user("u"), start(unit("s")))
}

func TestQ2Stop(t *testing.T) {
	m := machine.New()
	for _, name := range []string{"s", "a", "z", "m"} {
		mustDo(t, m, start(unit(name)))
	}
	mustKeep(t, m, stop("b"), stop(""), stop("no name"), stop(strings.Repeat("n", 99)), stop("S"), stop("\xff"))
	mustDo(t, m, stop("a"))
	mustRun(t, m, "s", "z", "m")
	mustKeep(t, m, stop("a"))
	mustDo(t, m, stop("m"))
	mustRun(t, m, "s", "z")
	mustDo(t, m, stop("s"))
	mustRun(t, m, "z")
	mustDo(t, m, stop("z"))
	mustRun(t, m)
}

// What others require may be stopped: they run on.
func TestQ2StopOfWhatIsRequired(t *testing.T) {
	m := machine.New()
	mustDo(t, m, start(unit("s")), start(unit("t", "s")), stop("s"))
	mustRun(t, m, "t")
	mustDo(t, m, start(unit("s")))
	mustRun(t, m, "t", "s")
}

func TestQ2StopIsATry(t *testing.T) {
	m := machine.New()
	mustDo(t, m, start(unit("s")), start(unit("t")))
	m.Plan([]bool{true, false, true, true})
	mustKeep(t, m, stop("u"), stop(""))
	mustNot(t, m, api.ErrService, stop("s"))
	mustDo(t, m, stop("t"))
	mustRun(t, m, "s")
	mustKeep(t, m, stop("t"))
	mustNot(t, m, api.ErrService, stop("s"), stop("s"))
	mustDo(t, m, stop("s"))
	mustRun(t, m)
}

func TestQ2RemoveAndDrop(t *testing.T) {
	m := machine.New()
	mustKeep(t, m, remove("a"), drop("a"))
	mustDo(t, m, put(file("a", "x")), put(file("a/b", "x")), put(link("c", "/a")), user("a"), user("b"), user("c"), start(unit("a")))
	m.Plan([]bool{true})
	mustKeep(t, m, remove("b"), remove(""), remove("/a"), remove("a/"), remove("no path"), remove("/"), remove("a/b/c"), remove("A"))
	mustKeep(t, m, drop("d"), drop(""), drop("a/b"), drop("no name"), drop("A"))
	mustDo(t, m, remove("a"))
	mustHave(t, m, file("a/b", "x"), link("c", "/a"))
	mustUse(t, m, "a", "b", "c")
	mustDo(t, m, drop("b"))
	mustUse(t, m, "a", "c")
	mustHave(t, m, file("a/b", "x"), link("c", "/a"))
	mustKeep(t, m, remove("a"), drop("b"))
	mustDo(t, m, remove("c"), drop("c"), remove("a/b"), drop("a"))
	mustBe(t, m, api.Observed{Running: []api.Unit{unit("a")}})
	mustHaveLeft(t, m, true)
}

func TestQ2FilesRise(t *testing.T) {
	m := machine.New()
	for _, path := range []string{"m", "a", "z", "a/b", "a-b", "Z", "a.b", "0", "a/b/c", "mm", "+"} {
		mustDo(t, m, put(file(path, path)))
	}
	var want []api.Entry
	for _, path := range []string{"+", "0", "Z", "a", "a-b", "a.b", "a/b", "a/b/c", "m", "mm", "z"} {
		want = append(want, file(path, path))
	}
	mustHave(t, m, want...)
}

// The file at a path is the one that was put there last, of any kind.
func TestQ2FileInPlaceOfAnother(t *testing.T) {
	m := machine.New()
	mustDo(t, m, put(file("a", "")), put(file("b", "xx")), put(file("c", "")))
	for _, f := range []api.Entry{file("b", "yy"), file("b", ""), file("b", "xxx"), link("b", "/z"), link("b", "/"), file("b", "/"), {Path: "b", Kind: api.KindFile}} {
		mustDo(t, m, put(f))
		mustHave(t, m, file("a", ""), f, file("c", ""))
		mustKeep(t, m, put(f))
	}
}

func TestQ2FileThatIsNoTree(t *testing.T) {
	m := machine.New()
	mustDo(t, m, put(file("a", "x")))
	long := strings.Repeat("n", api.MaxName)
	for _, f := range []api.Entry{
		{}, file("", ""), file("/a", ""), file("a/", ""), file("a//b", ""), file(".", ""), file("a/..", ""), file("a b", ""), file("\xff", ""), file("a\n", ""),
		file("a/b/c/d/e", ""), file(long+"n", ""), file(long+"/"+long+"/"+long+"/0123456789", ""), file("a", strings.Repeat("x", api.MaxData+1)),
		link("a", ""), link("a", "z"), link("a", "/z/"), link("a", "/."), link("a", "/"+strings.Repeat("z", api.MaxName+1)),
		{Path: "a"}, {Path: "a", Kind: api.KindDir}, {Path: "a", Kind: 4}, {Path: "a", Kind: -1}, {Path: "a", Kind: math.MinInt, Data: []byte("x")},
	} {
		mustNot(t, m, api.ErrStep, put(f))
	}
	mustDo(t, m, put(file("a/b/c/d", "")), put(file(long, "")), put(file(long+"/"+long+"/"+long+"/012345678", "")), put(file("a", strings.Repeat("x", api.MaxData))), put(link("b", "/"+long)))
	if l := m.Observe().Files; len(l) != 5 {
		t.Error("files are", showAll(l, showFile))
	}
}

func TestQ2FileOfAnotherName(t *testing.T) {
	m := machine.New()
	mustDo(t, m, put(file("a", "x")), put(file("b", "x")))
	for _, name := range []string{"", "b", "c", "a/", "/a", "A", "aa"} {
		mustNot(t, m, api.ErrStep, api.Act{Kind: api.StepFile, Name: name, File: file("a", "y")})
	}
}

func TestQ2FilesAreAtMostSoMany(t *testing.T) {
	m := machine.New()
	for k := range api.MaxEntries {
		mustDo(t, m, put(file(numbered("f", k), "x")))
	}
	mustNot(t, m, api.ErrStep, put(file("a", "")), put(file("f", "")), put(link("z", "/")))
	// One in place of another is none more.
	mustKeep(t, m, put(file("f00", "x")), put(file("f23", "x")))
	mustDo(t, m, put(file("f11", "y")), put(link("f23", "/z")), remove("f05"), put(file("a", "")))
	mustNot(t, m, api.ErrStep, put(file("f05", "x")))
	l := m.Observe().Files
	if len(l) != api.MaxEntries || l[0].Path != "a" || string(l[11].Data) != "y" || l[23].Kind != api.KindLink {
		t.Error("files are", showAll(l, showFile))
	}
}

func TestQ2Users(t *testing.T) {
	m := machine.New()
	for _, name := range []string{"m", "a", "z", "Z", "a-b", "0", "mm", "+", "..."} {
		mustDo(t, m, user(name))
		mustKeep(t, m, user(name))
	}
	mustUse(t, m, "+", "...", "0", "Z", "a", "a-b", "m", "mm", "z")
	for _, name := range []string{"", ".", "..", "a b", "a/b", "a\n", "\xff", "\x00", "ä", strings.Repeat("n", api.MaxName+1)} {
		mustNot(t, m, api.ErrStep, user(name))
	}
	mustDo(t, m, user(strings.Repeat("n", api.MaxName)))
	if l := m.Observe().Users; len(l) != 10 || l[8] != strings.Repeat("n", api.MaxName) {
		t.Errorf("users are %q", l)
	}
}

func TestQ2UsersAreAtMostSoMany(t *testing.T) {
	m := machine.New()
	for k := range api.MaxUsers {
		mustDo(t, m, user(numbered("u", k)))
	}
	mustNot(t, m, api.ErrStep, user("a"), user("u"), user("z"), user(""))
	mustKeep(t, m, user("u00"), user("u07"), user("u15"))
	mustDo(t, m, drop("u07"), user("z"))
	mustNot(t, m, api.ErrStep, user("u07"))
	if l := m.Observe().Users; len(l) != api.MaxUsers || l[7] != "u08" || l[15] != "z" {
		t.Errorf("users are %q", l)
	}
}

func TestFilesAndUsersAreNoTries(t *testing.T) {
	m := machine.New()
	m.Plan([]bool{true, false})
	mustDo(t, m, put(file("a", "x")), put(file("a", "y")), put(file("a", "y")), user("u"), user("u"), remove("a"), drop("u"))
	mustNot(t, m, api.ErrStep, put(file("", "")), user(""))
	mustHaveLeft(t, m, true, false)
}
