package render_test

import (
	"slices"
	"testing"

	"bootjack/api"
	"bootjack/render"
)

// roomy is a list, perhaps an empty one, that has room to spare.
func roomy[T any](l ...T) []T { return append(make([]T, 0, 40), l...) }

// spoil writes over all that a list has room for.
func spoil[T any](l []T, with T) {
	for i := range l[:cap(l)] {
		l[:cap(l)][i] = with
	}
}

func spoilUnits(l []api.Unit) {
	for _, u := range l {
		spoil(u.Requires, "spoilt")
		spoil(u.After, "spoilt")
	}
	spoil(l, unit("spoilt", "spoilt"))
}

func spoilConfig(c api.Config) {
	for _, s := range c.Settings {
		spoil(s.Value.Items, text("spoilt"))
	}
	spoil(c.Settings, api.Setting{Path: "spoilt"})
	spoil(c.Files, file("spoilt", "spoilt"))
	spoil(c.Users, "spoilt")
	spoilUnits(c.Units)
}

func spoilSystem(s api.System) {
	for _, f := range s.Files {
		spoil(f.Data, '!')
	}
	spoil(s.Files, api.Entry{Path: "spoilt"})
	spoil(s.Users, "spoilt")
	spoilUnits(s.Units)
}

// rich has something of everything, and lists with room to spare; two of its
// units share what they require.
func rich() api.Config {
	shared := roomy("n", "m")
	return api.Config{
		Settings: roomy(api.Setting{Path: "a", Value: list(roomy(whole(1), text("x"))...)}),
		Files:    roomy(file("f", "x"), file("g", ""), file("h", "x")),
		Users:    roomy("u", "v"),
		Units:    roomy(api.Unit{Name: "w", Requires: shared, After: shared}, api.Unit{Name: "x", Start: "s", Requires: shared, After: roomy[string]()}, unit("y", "")),
	}
}

const richManifest = "a = [ 1 \"x\" ]\nfile f\nfile g\nfile h\nuser u\nuser v\nunit w\nunit x\nunit y\n"

func richSystem() api.System {
	return api.System{
		Files: []api.Entry{{Path: "f", Kind: api.KindFile, Data: []byte("x\n")}, {Path: "g", Kind: api.KindFile}, {Path: "h", Kind: api.KindFile, Data: []byte("x\n")}},
		Users: []string{"u", "v"},
		Units: []api.Unit{{Name: "w", Start: "w", Requires: []string{"n", "m"}, After: []string{"n", "m"}}, {Name: "x", Start: "s", Requires: []string{"n", "m"}}, unit("y", "y")},
	}
}

// isRich tells whether a configuration is as rich made it, its spare room too.
func isRich(c api.Config) bool {
	emptyUnit := func(u api.Unit) bool { return u.Name == "" && u.Start == "" && u.Requires == nil && u.After == nil }
	return render.Manifest(c) == richManifest && sameSystem(render.System(c), richSystem()) && c.Units[0].Start == "" && c.Units[2].Start == "" &&
		!slices.ContainsFunc(c.Files[3:40], func(f api.Pair) bool { return f != api.Pair{} }) &&
		!slices.ContainsFunc(c.Users[2:40], func(u string) bool { return u != "" }) &&
		!slices.ContainsFunc(c.Units[3:40], func(u api.Unit) bool { return !emptyUnit(u) }) &&
		!slices.ContainsFunc(c.Units[0].Requires[2:40], func(u string) bool { return u != "" }) &&
		!slices.ContainsFunc(c.Units[1].After[:40], func(u string) bool { return u != "" })
}

func TestR3Argument(t *testing.T) {
	c := rich()
	s, m := render.System(c), render.Manifest(c)
	if !isRich(c) {
		t.Errorf("what was handed in has changed: %+v", c)
	}
	spoilConfig(c)
	if !sameSystem(s, richSystem()) || m != richManifest {
		t.Errorf("what was answered hangs on what was handed in: %+v, %q", s, m)
	}
	c = rich()
	spoilSystem(render.System(c))
	if !isRich(c) {
		t.Errorf("what was answered leads to what was handed in: %+v", c)
	}
}

func TestR3Answers(t *testing.T) {
	c := rich()
	one, other := render.System(c), render.System(c)
	spoilSystem(one)
	if !sameSystem(other, richSystem()) {
		t.Errorf("two answers share memory: %+v", other)
	}
	// Nor do two lists of one answer, the spare room of them included.
	s, want := render.System(c), richSystem()
	for i := range s.Units {
		spoil(s.Units[i].Requires, "spoilt")
		want.Units[i].Requires = s.Units[i].Requires
		if !sameSystem(s, want) {
			t.Errorf("lists of unit %d share memory with others: %+v", i, s)
		}
		spoil(s.Units[i].After, "spoilt")
		want.Units[i].After = s.Units[i].After
		if !sameSystem(s, want) {
			t.Errorf("lists of unit %d share memory with others: %+v", i, s)
		}
	}
	for i := range s.Files {
		spoil(s.Files[i].Data, '!')
		want.Files[i].Data = s.Files[i].Data
		if !sameSystem(s, want) {
			t.Errorf("the data of file %d share memory with others: %+v", i, s)
		}
	}
}

// An empty list leads nowhere, though the one that was handed in has room.
func TestR3EmptyLists(t *testing.T) {
	users, after := roomy[string](), roomy[string]()
	s := render.System(api.Config{Users: users, Units: roomy(api.Unit{Requires: users, After: after})})
	s.Users = append(s.Users, "spoilt")
	s.Units[0].Requires = append(s.Units[0].Requires, "spoilt")
	s.Units[0].After = append(s.Units[0].After, "spoilt")
	if users[:1][0] != "" || after[:1][0] != "" {
		t.Errorf("%q, %q", users[:1], after[:1])
	}
}
