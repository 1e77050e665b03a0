package activate_test

import (
	"bytes"
	"slices"
	"testing"

	"bootjack/activate"
	"bootjack/api"
	"bootjack/machine"
)

// roomy is a list, perhaps an empty one, that has room to spare.
func roomy[T any](l ...T) []T { return append(make([]T, 0, len(l)+10), l...) }

// spoil writes over all that a list has room for.
func spoil[T any](l []T, with T) {
	for i := range l[:cap(l)] {
		l[:cap(l)][i] = with
	}
}

func roomyFiles(l []api.Entry) []api.Entry {
	out := roomy(l...)
	for i := range out {
		out[i].Data = roomy(out[i].Data...)
	}
	return out
}

func roomyUnits(l []api.Unit) []api.Unit {
	out := roomy(l...)
	for i := range out {
		out[i].Requires, out[i].After = roomy(out[i].Requires...), roomy(out[i].After...)
	}
	return out
}

func roomySystem(s api.System) api.System {
	return api.System{Files: roomyFiles(s.Files), Users: roomy(s.Users...), Units: roomyUnits(s.Units)}
}

func roomyActs(l []api.Act) []api.Act {
	out := roomy(l...)
	for i, a := range out {
		out[i].File.Data = roomy(a.File.Data...)
		out[i].Unit.Requires, out[i].Unit.After = roomy(a.Unit.Requires...), roomy(a.Unit.After...)
	}
	return out
}

func spoilFile(f api.Entry) { spoil(f.Data, '!') }

func spoilUnit(u api.Unit) {
	spoil(u.Requires, "spoilt")
	spoil(u.After, "spoilt")
}

func spoilFiles(l []api.Entry) {
	for _, f := range l {
		spoilFile(f)
	}
	spoil(l, api.Entry{Path: "spoilt"})
}

func spoilSystem(s api.System) {
	spoilFiles(s.Files)
	spoil(s.Users, "spoilt")
	for _, u := range s.Units {
		spoilUnit(u)
	}
	spoil(s.Units, api.Unit{Name: "spoilt"})
}

func spoilActs(l []api.Act) {
	for _, a := range l {
		spoilFile(a.File)
		spoilUnit(a.Unit)
	}
	spoil(l, api.Act{Kind: -1, Name: "spoilt"})
}

// isClear tells whether a list's spare room is as it was made.
func isClear[T comparable](l []T) bool {
	var zero T
	return !slices.ContainsFunc(l[len(l):cap(l)], func(x T) bool { return x != zero })
}

func unitIsClear(u api.Unit) bool { return isClear(u.Requires) && isClear(u.After) }

func systemIsClear(s api.System) bool {
	return isClear(s.Users) &&
		!slices.ContainsFunc(s.Files, func(f api.Entry) bool { return !isClear(f.Data) }) &&
		!slices.ContainsFunc(s.Units, func(u api.Unit) bool { return !unitIsClear(u) }) &&
		showEntries(s.Files[len(s.Files):cap(s.Files)]) == showEntries(make([]api.Entry, cap(s.Files)-len(s.Files))) &&
		showAll(s.Units[len(s.Units):cap(s.Units)], showUnit) == showAll(make([]api.Unit, cap(s.Units)-len(s.Units)), showUnit)
}

// rich has something of everything; its parts share what they can.
func rich() api.System {
	data, names := []byte("x"), []string{"u", "w"}
	return api.System{
		Files: entries(api.Entry{Path: "a", Kind: api.KindFile, Data: data}, api.Entry{Path: "b", Kind: api.KindFile, Data: data}, file("c", "")),
		Users: []string{"p", "q"},
		Units: units(unit("u", "x"), unit("w", "x"), api.Unit{Name: "y", Start: "x", Requires: names, After: names}, api.Unit{Name: "z", Start: "x", Requires: names, After: names}),
	}
}

func poor() api.Observed {
	return api.Observed{Files: entries(file("b", "y"), file("d", "x"), file("0", "")), Users: []string{"r", "q", "o"}, Running: units(unit("u", "x"), unit("z", "x"))}
}

func same(t *testing.T, what, got, want string) {
	t.Helper()
	if got != want {
		t.Errorf("%s: %.500s; must be %.500s", what, got, want)
	}
}

// What is handed in stays as it is, its spare room included (R3), also where
// it is refused (R2).
func TestR3ArgumentsStay(t *testing.T) {
	wrong := rich()
	wrong.Users = []string{"q", "p", "p"}
	wrong.Units = append(wrong.Units, unit("v", "", "t"), unit("u", "x"))
	for _, plain := range []api.System{rich(), wrong, seen(poor())} {
		s, o := roomySystem(plain), roomySystem(seen(poor()))
		activate.Right(s)
		activate.Entries(s)
		activate.Meets(observed(o), s)
		activate.Acts(observed(o), s)
		activate.Acts(observed(s), o)
		activate.To(machine.New(), s)
		same(t, "what was handed in", showSystem(s), showSystem(plain))
		same(t, "what was handed in", showSystem(o), showSystem(seen(poor())))
		if !systemIsClear(s) || !systemIsClear(o) {
			t.Error("spare room of what was handed in was written to")
		}
	}
	l := roomyFiles(activate.Entries(rich()))
	for range 2 {
		want := showEntries(l)
		activate.System(l)
		same(t, "the entries", showEntries(l), want)
		if !systemIsClear(api.System{Files: l}) {
			t.Error("spare room of the entries was written to")
		}
		slices.Reverse(l)
	}
}

func TestR3ArgumentsOfActsStay(t *testing.T) {
	wrong := activate.Acts(poor(), rich())
	slices.Reverse(wrong)
	wrong[2].Unit = unit("a", "x", "b")
	for _, plain := range [][]api.Act{activate.Acts(poor(), rich()), wrong} {
		l := roomyActs(plain)
		activate.Text(l)
		activate.Run(machine.New(), l)
		same(t, "the acts", showActs(l), showActs(plain))
		same(t, "their spare room", showActs(l[len(l):cap(l)]), showActs(make([]api.Act, cap(l)-len(l))))
		for _, a := range l {
			if !isClear(a.File.Data) || !unitIsClear(a.Unit) {
				t.Error("spare room of an act was written to")
			}
		}
	}
}

func TestR3Entries(t *testing.T) {
	s := roomySystem(rich())
	one, other := activate.Entries(s), activate.Entries(s)
	want := showEntries(one)
	spoilSystem(s)
	same(t, "Entries share what was handed in", showEntries(one), want)
	spoilFiles(one)
	same(t, "two answers share memory", showEntries(other), want)
	again := roomySystem(rich())
	spoilFiles(activate.Entries(again))
	same(t, "an answer leads to what was handed in", showSystem(again), showSystem(rich()))
}

func TestR3System(t *testing.T) {
	l := roomyFiles(activate.Entries(rich()))
	one, _ := activate.System(l)
	other, _ := activate.System(l)
	want := showSystem(rich())
	spoilFiles(l)
	same(t, "System shares what was handed in", showSystem(one), want)
	spoilSystem(one)
	same(t, "two answers share memory", showSystem(other), want)
	l = roomyFiles(activate.Entries(rich()))
	text := showEntries(l)
	again, _ := activate.System(l)
	spoilSystem(again)
	same(t, "an answer leads to what was handed in", showEntries(l), text)
}

func TestR3Acts(t *testing.T) {
	s, o := roomySystem(rich()), roomySystem(seen(poor()))
	one, other := activate.Acts(observed(o), s), activate.Acts(observed(o), s)
	want := showActs(one)
	spoilSystem(s)
	spoilSystem(o)
	same(t, "Acts share what was handed in", showActs(one), want)
	spoilActs(one)
	same(t, "two answers share memory", showActs(other), want)
	s, o = roomySystem(rich()), roomySystem(seen(poor()))
	spoilActs(activate.Acts(observed(o), s))
	same(t, "an answer leads to what was handed in", showSystem(s), showSystem(rich()))
	same(t, "an answer leads to what was handed in", showSystem(o), showSystem(seen(poor())))
}

func TestR3Parse(t *testing.T) {
	text := activate.Text(activate.Acts(poor(), rich()))
	one, _ := activate.Parse(text)
	other, _ := activate.Parse(text)
	want := showActs(other)
	spoilActs(one)
	same(t, "two answers share memory", showActs(other), want)
}

// No two lists of one answer share memory, the spare room of them included,
// though those that were handed in do.
func TestR3ListsOfAnAnswer(t *testing.T) {
	apart := func(what string, one, plain []api.Act) {
		t.Helper()
		for i := range one {
			spoilFile(one[i].File)
			plain[i].File.Data = bytes.Repeat([]byte("!"), len(plain[i].File.Data))
			same(t, what, showActs(one), showActs(plain))
			spoil(one[i].Unit.Requires, "spoilt")
			spoil(plain[i].Unit.Requires, "spoilt")
			same(t, what, showActs(one), showActs(plain))
			spoil(one[i].Unit.After, "spoilt")
			spoil(plain[i].Unit.After, "spoilt")
			same(t, what, showActs(one), showActs(plain))
		}
	}
	// The lists of what it is held against are of their own, whatever the answers' are.
	own := func() []api.Act { return roomyActs(activate.Acts(api.Observed{}, rich())) }
	apart("Acts", activate.Acts(api.Observed{}, rich()), own())
	l, _ := activate.Parse(activate.Text(own()))
	apart("Parse", l, own())
	s, _ := activate.System(activate.Entries(rich()))
	apart("System", wrapped(s), wrapped(roomySystem(rich())))
	apart("Entries", wrapped(filesOf(activate.Entries(rich())...)), wrapped(filesOf(roomyFiles(activate.Entries(rich()))...)))
}

// wrapped puts a system's files and units into acts, as they are.
func wrapped(s api.System) []api.Act {
	var l []api.Act
	for _, f := range s.Files {
		l = append(l, put(f))
	}
	for _, u := range s.Units {
		l = append(l, start(u))
	}
	return l
}

// The machine keeps nothing of what To and Run were handed.
func TestR3Machine(t *testing.T) {
	m := machine.New()
	s := roomySystem(rich())
	mustGo(t, m, s, api.OK)
	spoilSystem(s)
	mustBe(t, m, rich())
	mustGo(t, m, api.System{}, api.OK)
	l := roomyActs(activate.Acts(api.Observed{}, rich()))
	mustRun(t, m, len(l), api.OK, l...)
	spoilActs(l)
	mustBe(t, m, rich())
}
