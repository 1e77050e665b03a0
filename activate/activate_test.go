package activate_test

import (
	"fmt"
	"strings"
	"testing"

	"bootjack/activate"
	"bootjack/api"
)

func file(path, data string) api.Entry {
	return api.Entry{Path: path, Kind: api.KindFile, Data: []byte(data)}
}

func link(path, to string) api.Entry {
	return api.Entry{Path: path, Kind: api.KindLink, Data: []byte(to)}
}

func unit(name, start string, requires ...string) api.Unit {
	return api.Unit{Name: name, Start: start, Requires: requires}
}

func stop(name string) api.Act   { return api.Act{Kind: api.StepStop, Name: name} }
func remove(name string) api.Act { return api.Act{Kind: api.StepRemove, Name: name} }
func drop(name string) api.Act   { return api.Act{Kind: api.StepDrop, Name: name} }
func user(name string) api.Act   { return api.Act{Kind: api.StepUser, Name: name} }
func put(f api.Entry) api.Act    { return api.Act{Kind: api.StepFile, Name: f.Path, File: f} }
func start(u api.Unit) api.Act   { return api.Act{Kind: api.StepStart, Name: u.Name, Unit: u} }

func acts(l ...api.Act) []api.Act        { return l }
func entries(l ...api.Entry) []api.Entry { return l }
func units(l ...api.Unit) []api.Unit     { return l }

// many makes n of a kind, with names that rise.
func many[T any](n int, one func(name string) T) []T {
	var l []T
	for k := range n {
		l = append(l, one(fmt.Sprintf("n%02d", k)))
	}
	return l
}

func manyFiles(n int) []api.Entry {
	return many(n, func(name string) api.Entry { return file(name, name) })
}

func manyUsers(n int) []string { return many(n, func(name string) string { return name }) }

func manyUnits(n int) []api.Unit {
	return many(n, func(name string) api.Unit { return unit(name, "x") })
}

func lines(l ...string) string { return strings.Join(l, "\n") + "\n" }

func showFile(f api.Entry) string { return fmt.Sprintf("%q %d %q", f.Path, f.Kind, f.Data) }

func showUnit(u api.Unit) string {
	return fmt.Sprintf("%q %q %q %q", u.Name, u.Start, u.Requires, u.After)
}

func showAct(a api.Act) string {
	return fmt.Sprintf("%d %q (%s) (%s)", a.Kind, a.Name, showFile(a.File), showUnit(a.Unit))
}

// showAll takes a list without elements as any other such list.
func showAll[T any](l []T, show func(T) string) string {
	var words []string
	for _, x := range l {
		words = append(words, show(x))
	}
	return strings.Join(words, ", ")
}

func showEntries(l []api.Entry) string { return showAll(l, showFile) }
func showActs(l []api.Act) string      { return showAll(l, showAct) }

func showSystem(s api.System) string {
	return fmt.Sprintf("files %s; users %q; units %s", showEntries(s.Files), s.Users, showAll(s.Units, showUnit))
}

func observed(s api.System) api.Observed {
	return api.Observed{Files: s.Files, Users: s.Users, Running: s.Units}
}

func seen(o api.Observed) api.System {
	return api.System{Files: o.Files, Users: o.Users, Units: o.Running}
}

func showObserved(o api.Observed) string { return showSystem(seen(o)) }

// mustBeRight holds that a system may be, and comes back from its entries (V1, V5).
func mustBeRight(t *testing.T, what string, s api.System) {
	t.Helper()
	l := activate.Entries(s)
	if !activate.Right(s) || len(l) != len(s.Files)+1 {
		t.Errorf("%s: may not be, %.300s: its entries are %.300s", what, showSystem(s), showEntries(l))
		return
	}
	if again, e := activate.System(l); e != api.OK || showSystem(again) != showSystem(s) {
		t.Errorf("%s: of its entries: %d, %.300s; must be %.300s", what, e, showSystem(again), showSystem(s))
	}
}

func mustBeWrong(t *testing.T, what string, s api.System) {
	t.Helper()
	if l := activate.Entries(s); activate.Right(s) || len(l) != 0 {
		t.Errorf("%s: may be, %.300s, its entries %.300s; must not", what, showSystem(s), showEntries(l))
	}
	if l := activate.Acts(api.Observed{Users: []string{"there"}}, s); len(l) != 0 {
		t.Errorf("%s: Acts: %s; must be none", what, showActs(l))
	}
}

func filesOf(l ...api.Entry) api.System { return api.System{Files: l} }
func usersOf(l ...string) api.System    { return api.System{Users: l} }
func unitsOf(l ...api.Unit) api.System  { return api.System{Units: l} }

func TestV1RightFiles(t *testing.T) {
	mustBeRight(t, "nothing", api.System{})
	mustBeRight(t, "lists without elements", api.System{Files: entries(), Users: []string{}, Units: units()})
	mustBeRight(t, "a file of each kind", filesOf(file("a", ""), link("b/c", "/z"), file("b/d/e", "\x00\xff\n")))
	mustBeRight(t, "as many as there is room for", filesOf(manyFiles(23)...))
	mustBeWrong(t, "one too many with the system's own entry", filesOf(manyFiles(24)...))
	mustBeWrong(t, "one too many", filesOf(manyFiles(25)...))
	mustBeRight(t, "data", filesOf(file("a", strings.Repeat("x", api.MaxData))))
	mustBeWrong(t, "too many data", filesOf(file("a", strings.Repeat("x", api.MaxData+1))))
	mustBeRight(t, "a name that the system's own entry has, too", filesOf(file("system", "")))
	mustBeRight(t, "a name that the folder has, too", filesOf(file("etc/etc/etc", "")))
	for _, l := range [][]api.Entry{
		{file("b", ""), file("a", "")},
		{file("a", ""), file("a", "")},
		{file("a", ""), file("a/b", "")},
		{file("a", ""), file("a-b", ""), file("a/b", "")},
		{{Path: "a"}}, {{Path: "a", Kind: api.KindDir}}, {{Path: "a", Kind: 4}}, {{Path: "a", Kind: -1}},
		{link("a", "")}, {link("a", "z")}, {link("a", "/z/")},
		{file("a", ""), link("b", "..")},
		{{}},
	} {
		mustBeWrong(t, "files that are no tree", filesOf(l...))
	}
}

// A tree's path has four names and 120 bytes, and so a system's file has one
// name and four bytes less.
func TestV1RightPaths(t *testing.T) {
	long := strings.Repeat("n", 36)
	mustBeRight(t, "three names", filesOf(file("a/b/c", "")))
	mustBeWrong(t, "four names", filesOf(file("a/b/c/d", "")))
	mustBeWrong(t, "five names", filesOf(file("a/b/c/d/e", "")))
	mustBeRight(t, "a long name", filesOf(file(long, "")))
	mustBeWrong(t, "a name that is too long", filesOf(file(long+"n", "")))
	mustBeRight(t, "a long path", filesOf(file(long+"/"+long+"/"+long, "")))
	for _, path := range []string{"", "/", "/a", "a/", "a//b", ".", "..", "a/..", "../a", "./a", "a b", "a\n", "\xff", "a/b\x00"} {
		mustBeWrong(t, "a path", filesOf(file(path, "")))
		mustBeWrong(t, "a path behind another", filesOf(file("+", ""), file(path, "")))
	}
}

func TestV1RightUsers(t *testing.T) {
	long := strings.Repeat("n", api.MaxName)
	mustBeRight(t, "users", usersOf("+", "-", "...", "0", "A", "Z.z", "_", "a", "a+", long))
	mustBeRight(t, "as many as there may be", usersOf(manyUsers(api.MaxUsers)...))
	mustBeWrong(t, "one too many", usersOf(manyUsers(api.MaxUsers+1)...))
	for _, l := range [][]string{{"b", "a"}, {"a", "a"}, {"a", "c", "b"}, {"a", "b", "b"}, {"a", "B"}, {"a", "c", "d", "b"}} {
		mustBeWrong(t, "users that do not rise", usersOf(l...))
	}
	for _, name := range []string{"", ".", "..", "a b", "a/b", "a\n", " a", "\xff", long + "n"} {
		mustBeWrong(t, "a name", usersOf(name))
		mustBeWrong(t, "a name behind another", usersOf("!", name))
		mustBeWrong(t, "a name ahead of another", usersOf(name, "z"))
	}
}

func TestV1RightUnits(t *testing.T) {
	long := strings.Repeat("n", api.MaxName)
	mustBeRight(t, "a unit with all", unitsOf(unit("b", "x"), api.Unit{Name: "a", Start: " ~ ", Requires: []string{"b", "b"}, After: []string{"a", "c", "b", "c", long}}))
	mustBeRight(t, "as many as there may be", unitsOf(manyUnits(api.MaxUnits)...))
	mustBeWrong(t, "one too many", unitsOf(manyUnits(api.MaxUnits+1)...))
	mustBeRight(t, "names that fall", unitsOf(unit("b", "x"), unit("a", "x"), unit(long, "x")))
	mustBeRight(t, "one behind the other", unitsOf(unit("c", "x"), unit("b", "x", "c"), unit("a", "x", "b", "c")))
	mustBeRight(t, "behind what stands behind it", unitsOf(api.Unit{Name: "a", Start: "x", After: []string{"b"}}, unit("b", "x")))
	mustBeWrong(t, "two of a name", unitsOf(unit("a", "x"), unit("a", "x")))
	mustBeWrong(t, "two of a name, apart", unitsOf(unit("a", "x"), unit("b", "x"), unit("a", "y")))
	mustBeWrong(t, "ahead of what it requires", unitsOf(unit("a", "x", "b"), unit("b", "x")))
	mustBeWrong(t, "itself", unitsOf(unit("a", "x", "a")))
	mustBeWrong(t, "what there is not", unitsOf(unit("a", "x", "b")))
	mustBeWrong(t, "one of two", unitsOf(unit("a", "x"), unit("b", "x", "a", "c")))
	mustBeWrong(t, "the other of two", unitsOf(unit("a", "x"), unit("b", "x", "c", "a"), unit("c", "x")))
	mustBeWrong(t, "a user that it requires", api.System{Users: []string{"a"}, Units: units(unit("b", "x", "a"))})
	for _, name := range []string{"", ".", "..", "a b", "a/b", "a\n", "\xff", long + "n"} {
		mustBeWrong(t, "a unit's name", unitsOf(unit("a", "x"), unit(name, "x")))
		mustBeWrong(t, "what it requires", unitsOf(unit("a", "x", name)))
		mustBeWrong(t, "what it stands behind", unitsOf(api.Unit{Name: "a", Start: "x", After: []string{"b", name}}))
	}
	for _, s := range []string{" ", "~", strings.Repeat("x", 120), "a  b ", "run", "end"} {
		mustBeRight(t, "a start", unitsOf(unit("a", s)))
	}
	for _, s := range []string{"", "\n", "x\n", "\x1f", "\x7f", "\x80", "\xff", "a\tb", strings.Repeat("x", 121)} {
		mustBeWrong(t, "a start", unitsOf(unit("a", s)))
	}
}

// All but the files stands in one entry, and so in MaxData bytes.
func TestV1RightSystemEntry(t *testing.T) {
	base := unitsOf(manyUnits(16)...)
	for k := range base.Units {
		base.Units[k].Start = strings.Repeat("x", 100)
	}
	room := api.MaxData - len(activate.Entries(base)[0].Data)
	for k := range base.Units {
		more := min(room, 20)
		base.Units[k].Start += strings.Repeat("y", more)
		room -= more
	}
	if n := len(activate.Entries(base)[0].Data); room != 0 || n != api.MaxData {
		t.Fatalf("%d bytes and room for %d; this test wants %d", n, room, api.MaxData)
	}
	mustBeRight(t, "just so many bytes", base)
	base.Units[15].Start += "z"
	mustBeWrong(t, "a byte more", base)
	base.Units[15].Start = base.Units[15].Start[:80]
	mustBeRight(t, "some bytes less", base)
	base.Users = manyUsers(5)
	mustBeWrong(t, "users in their place", base)
}

func TestV1Entries(t *testing.T) {
	all := api.System{
		Files: entries(file("a", "x"), link("b/c", "/z"), file("d", "\n")),
		Users: []string{"u", "v"},
		Units: units(unit("q", "y"), api.Unit{Name: "p", Start: " run  it ", Requires: []string{"q", "q"}, After: []string{"z", "q"}}, unit("o", "end")),
	}
	text := lines("user u", "user v", "unit q", "run y", "unit p", "run  run  it ", "requires q", "requires q", "after z", "after q", "unit o", "run end", "end")
	for _, c := range []struct {
		s    api.System
		want []api.Entry
	}{
		{api.System{}, entries(file("system", "end\n"))},
		{api.System{Users: []string{"b"}, Units: units(unit("u", "y"), unit("w", "x"))}, entries(file("system", "user b\nunit u\nrun y\nunit w\nrun x\nend\n"))},
		{all, entries(file("etc/a", "x"), link("etc/b/c", "/z"), file("etc/d", "\n"), file("system", text))},
		{filesOf(file("system", "user x\nend\n")), entries(file("etc/system", "user x\nend\n"), file("system", "end\n"))},
	} {
		if l := activate.Entries(c.s); showEntries(l) != showEntries(c.want) {
			t.Errorf("Entries of %s: %s; must be %s", showSystem(c.s), showEntries(l), showEntries(c.want))
		}
		if s, e := activate.System(c.want); e != api.OK || showSystem(s) != showSystem(c.s) {
			t.Errorf("System of %s: %d, %s; must be %s", showEntries(c.want), e, showSystem(s), showSystem(c.s))
		}
	}
}

func mustBeNoSystem(t *testing.T, l ...api.Entry) {
	t.Helper()
	s, e := activate.System(l)
	if e != api.ErrTree || len(s.Files) != 0 || len(s.Users) != 0 || len(s.Units) != 0 {
		t.Errorf("System of %.300s: %d, %.300s; must be %d, and nothing", showEntries(l), e, showSystem(s), api.ErrTree)
	}
}

func TestV1SystemOfOtherEntries(t *testing.T) {
	end := file("system", "end\n")
	mustBeNoSystem(t)
	mustBeNoSystem(t, file("etc/a", ""))
	mustBeNoSystem(t, link("system", "/end"))
	mustBeNoSystem(t, api.Entry{Path: "system", Kind: api.KindDir, Data: end.Data}, end)
	mustBeNoSystem(t, api.Entry{Path: "system", Data: end.Data})
	mustBeNoSystem(t, end, end)
	mustBeNoSystem(t, end, file("etc/a", ""))
	mustBeNoSystem(t, file("System", "end\n"))
	mustBeNoSystem(t, file("etc/system", "end\n"))
	mustBeNoSystem(t, file("system/a", "end\n"))
	mustBeNoSystem(t, end, file("systems", "end\n"))
	for _, path := range []string{"a", "etc", "etc-a", "etcetera/a", "Etc/a", "et/a", "eta/a"} {
		mustBeNoSystem(t, file(path, ""), end)
	}
	mustBeNoSystem(t, file("etc/b", ""), file("etc/a", ""), end)
	mustBeNoSystem(t, file("etc/a", ""), file("etc/a", ""), end)
	mustBeNoSystem(t, file("etc/a/b/c/d", ""), end)
	mustBeNoSystem(t, file("etc/", ""), end)
	mustBeNoSystem(t, append(many(24, func(name string) api.Entry { return file("etc/"+name, "") }), end)...)
}

func TestV1SystemOfOtherText(t *testing.T) {
	for _, text := range []string{
		"", "end", "\n", "end\n\n", "end\nend\n", " end\n", "end \n", "End\n", "end\r\n", "user a\n", "unit a\nrun x\n",
		"user a\nuser a\nend\n", "user b\nuser a\nend\n", "user\nend\n", "user \nend\n", "user  a\nend\n", "user a \nend\n", "user a b\nend\n", "usera\nend\n", "User a\nend\n",
		"unit a\nend\n", "unit a\nrun\nend\n", "unit a\nrun \nend\n", "run x\nend\n", "unit a\nunit b\nrun x\nend\n",
		"unit a\nrun x\nuser u\nend\n", "requires a\nend\n", "after a\nend\n",
		"unit a\nrun x\nrun x\nend\n", "unit a\nrequires a\nrun x\nend\n",
		"unit a\nrun x\nunit b\nrun x\nafter a\nrequires a\nend\n",
		"unit b\nrun x\nrequires a\nunit a\nrun x\nend\n", "unit a\nrun x\nunit a\nrun x\nend\n", "unit a\nrun x\nrequires a\nend\n",
		"unit a\nrun x\nrequires\nend\n", "unit a\nrun x\nafter\nend\n", "unit a\nrun x\nafter \nend\n", "unit a\nrun x\nafter b c\nend\n",
		"unit a\nrun x\ty\nend\n", "unit a\nrun \xff\nend\n", "unit a\nrun " + strings.Repeat("x", 121) + "\nend\n",
		"start a\nrun x\nend\n", "stop a\nend\n", "user a\n\nend\n", "end\nuser a\n", "user a\nend\nuser b\nend\n",
	} {
		mustBeNoSystem(t, file("system", text))
		mustBeNoSystem(t, file("etc/a", "x"), file("system", text))
	}
	var b strings.Builder
	for _, name := range manyUsers(17) {
		b.WriteString("user " + name + "\n")
	}
	mustBeNoSystem(t, file("system", b.String()+"end\n"))
	b.Reset()
	for _, name := range manyUsers(25) {
		b.WriteString("unit " + name + "\nrun x\n")
	}
	mustBeNoSystem(t, file("system", b.String()+"end\n"))
}

func TestV1Meets(t *testing.T) {
	all := api.System{
		Files: entries(file("a", "x"), link("b", "/z")),
		Users: []string{"u", "v"},
		Units: units(unit("q", "y"), api.Unit{Name: "p", Start: "x", Requires: []string{"q", "r"}, After: []string{"s", "t"}}),
	}
	if !activate.Meets(observed(all), all) || !activate.Meets(api.Observed{}, api.System{}) {
		t.Error("what is the same does not meet it")
	}
	if !activate.Meets(api.Observed{Files: entries(), Users: []string{}, Running: units()}, api.System{}) ||
		!activate.Meets(api.Observed{Files: entries(file("a", ""))}, filesOf(api.Entry{Path: "a", Kind: api.KindFile})) ||
		!activate.Meets(api.Observed{Running: units(api.Unit{Name: "a", Requires: []string{}, After: []string{}})}, unitsOf(api.Unit{Name: "a"})) {
		t.Error("lists without elements are not all alike")
	}
	q, p := all.Units[0], all.Units[1]
	other := func(change func(u *api.Unit)) []api.Unit {
		u := p
		change(&u)
		return units(q, u)
	}
	for k, o := range []api.Observed{
		{},
		{Files: all.Files}, {Users: all.Users}, {Running: all.Units},
		{Files: all.Files[:1], Users: all.Users, Running: all.Units},
		{Files: entries(all.Files[1], all.Files[0]), Users: all.Users, Running: all.Units},
		{Files: entries(all.Files[0], all.Files[1], file("c", "")), Users: all.Users, Running: all.Units},
		{Files: entries(all.Files[0], link("b", "/y")), Users: all.Users, Running: all.Units},
		{Files: entries(all.Files[0], file("b", "/z")), Users: all.Users, Running: all.Units},
		{Files: entries(all.Files[0], link("c", "/z")), Users: all.Users, Running: all.Units},
		{Files: entries(file("a", "xx"), all.Files[1]), Users: all.Users, Running: all.Units},
		{Files: all.Files, Users: []string{"u"}, Running: all.Units},
		{Files: all.Files, Users: []string{"v", "u"}, Running: all.Units},
		{Files: all.Files, Users: []string{"u", "v", "w"}, Running: all.Units},
		{Files: all.Files, Users: []string{"u", "w"}, Running: all.Units},
		{Files: all.Files, Users: all.Users, Running: units(q)},
		{Files: all.Files, Users: all.Users, Running: units(p, q)},
		{Files: all.Files, Users: all.Users, Running: units(q, p, unit("r", "x"))},
		{Files: all.Files, Users: all.Users, Running: other(func(u *api.Unit) { u.Name = "o" })},
		{Files: all.Files, Users: all.Users, Running: other(func(u *api.Unit) { u.Start = "y" })},
		{Files: all.Files, Users: all.Users, Running: other(func(u *api.Unit) { u.Requires = []string{"r", "q"} })},
		{Files: all.Files, Users: all.Users, Running: other(func(u *api.Unit) { u.After = []string{"t", "s"} })},
		{Files: all.Files, Users: all.Users, Running: other(func(u *api.Unit) { u.Requires, u.After = nil, []string{"q", "r", "s", "t"} })},
	} {
		if activate.Meets(o, all) || activate.Meets(observed(all), seen(o)) {
			t.Errorf("%d: %s meets %s", k, showObserved(o), showSystem(all))
		}
	}
	// Whether the system may be is not asked.
	for _, s := range []api.System{usersOf("b", "a", ""), unitsOf(unit("a", "", "a"), unit("a", "", "a")), filesOf(file("", ""), file("", ""))} {
		if !activate.Meets(observed(s), s) {
			t.Errorf("%s does not meet itself", showSystem(s))
		}
	}
}
