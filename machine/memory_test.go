package machine_test

import (
	"slices"
	"testing"

	"bootjack/api"
	"bootjack/machine"
)

// roomy is a list, perhaps an empty one, that has room to spare.
func roomy[T any](l ...T) []T { return append(make([]T, 0, 40), l...) }

// spoil writes over all that a list has room for.
func spoil[T any](l []T, with T) {
	for i := range l[:cap(l)] {
		l[:cap(l)][i] = with
	}
}

func spoilObserved(o api.Observed) {
	for _, f := range o.Files {
		spoil(f.Data, '!')
	}
	for _, u := range o.Running {
		spoil(u.Requires, "spoilt")
		spoil(u.After, "spoilt")
	}
	spoil(o.Files, file("spoilt", "spoilt"))
	spoil(o.Users, "spoilt")
	spoil(o.Running, unit("spoilt", "spoilt"))
}

// isClear tells whether a list's spare room is as it was made.
func isClear[T comparable](l []T) bool {
	var zero T
	return !slices.ContainsFunc(l[len(l):cap(l)], func(x T) bool { return x != zero })
}

func TestR3ArgumentOfPlan(t *testing.T) {
	m := machine.New()
	plan := roomy(true, false, true)
	m.Plan(plan)
	mustDo(t, m, put(file("a", "")))
	mustHaveLeft(t, m, true, false, true)
	if !slices.Equal(plan, []bool{true, false, true}) || !isClear(plan) {
		t.Errorf("what was handed in has changed: %v", plan[:cap(plan)])
	}
	m.Plan(plan)
	spoil(plan, false)
	mustHaveLeft(t, m, true, false, true)
}

func TestR3ArgumentOfDo(t *testing.T) {
	m := machine.New()
	data, requires, after := roomy([]byte("xyz")...), roomy("a", "b"), roomy("c", "a")
	f := api.Entry{Path: "f", Kind: api.KindFile, Data: data}
	u := api.Unit{Name: "u", Start: "run", Requires: requires, After: after}
	mustDo(t, m, start(unit("a")), start(unit("b")))
	mustDo(t, m, put(f), start(u))
	mustKeep(t, m, put(f), start(u))
	if string(data) != "xyz" || !slices.Equal(requires, []string{"a", "b"}) || !slices.Equal(after, []string{"c", "a"}) || !isClear(data) || !isClear(requires) || !isClear(after) {
		t.Errorf("what was handed in has changed: %q, %q, %q", data[:cap(data)], requires[:cap(requires)], after[:cap(after)])
	}
	spoil(data, '!')
	spoil(requires, "spoilt")
	spoil(after, "spoilt")
	want := api.Unit{Name: "u", Start: "run", Requires: []string{"a", "b"}, After: []string{"c", "a"}}
	mustBe(t, m, api.Observed{Files: []api.Entry{file("f", "xyz")}, Running: []api.Unit{unit("a"), unit("b"), want}})
	// Of an act that was refused, or had been done ahead, nothing is kept either.
	again := roomy([]byte("xyz")...)
	f.Data = again
	mustDo(t, m, put(f))
	spoil(again, '!')
	mustHave(t, m, file("f", "xyz"))
}

func TestR3Answers(t *testing.T) {
	m := machine.New()
	shared := roomy("a", "b")
	mustDo(t, m, put(file("f", "x")), put(file("g", "x")), put(link("h", "/x")), user("u"), user("v"))
	mustDo(t, m, start(unit("a")), start(unit("b")))
	mustDo(t, m, start(api.Unit{Name: "c", Start: "x", Requires: shared, After: shared}), start(api.Unit{Name: "d", Start: "x", Requires: shared, After: roomy[string]()}))
	want := show(m.Observe())
	one, other := m.Observe(), m.Observe()
	spoilObserved(one)
	if now := show(other); now != want {
		t.Errorf("two answers share memory: %s", now)
	}
	if now := show(m.Observe()); now != want {
		t.Errorf("an answer leads to what is kept: %s", now)
	}
	// What is done later is not to be seen in an answer from ahead.
	mustDo(t, m, put(file("a", "y")), put(file("f", "y")), remove("g"), drop("u"), user("a"), stop("a"), start(unit("z")))
	if now := show(other); now != want {
		t.Errorf("an answer has changed: %s", now)
	}
	m.Reset()
	if now := show(other); now != want {
		t.Errorf("an answer has changed: %s", now)
	}
}

// No two lists of one answer share memory, the spare room of them included.
func TestR3ListsOfAnAnswer(t *testing.T) {
	m := machine.New()
	shared, data := roomy("a"), roomy([]byte("x")...)
	mustDo(t, m, start(unit("a")))
	for _, name := range []string{"b", "c"} {
		mustDo(t, m, put(api.Entry{Path: name, Kind: api.KindFile, Data: data}), start(api.Unit{Name: name, Start: "x", Requires: shared, After: shared}))
	}
	o, want := m.Observe(), m.Observe()
	check := func() {
		t.Helper()
		if show(o) != show(want) {
			t.Errorf("lists of one answer share memory: %s; must be %s", show(o), show(want))
		}
	}
	for i := range o.Files {
		spoil(o.Files[i].Data, '!')
		want.Files[i].Data = o.Files[i].Data
		check()
	}
	for i := range o.Running {
		spoil(o.Running[i].Requires, "spoilt")
		want.Running[i].Requires = o.Running[i].Requires
		check()
		spoil(o.Running[i].After, "spoilt")
		want.Running[i].After = o.Running[i].After
		check()
	}
}

// An empty list leads nowhere, though the one that was handed in has room.
func TestR3EmptyLists(t *testing.T) {
	m := machine.New()
	data, names := roomy[byte](), roomy[string]()
	mustDo(t, m, put(api.Entry{Path: "a", Kind: api.KindFile, Data: data}), start(api.Unit{Name: "u", Start: "x", Requires: names, After: names}))
	m.Plan(roomy[bool]())
	for range 2 {
		o := m.Observe()
		o.Files[0].Data = append(o.Files[0].Data, '!')
		o.Running[0].Requires = append(o.Running[0].Requires, "spoilt")
		o.Running[0].After = append(o.Running[0].After, "spoilt")
	}
	mustBe(t, m, api.Observed{Files: []api.Entry{file("a", "")}, Running: []api.Unit{{Name: "u", Start: "x"}}})
	if !isClear(data) || !isClear(names) {
		t.Errorf("%q, %q", data[:cap(data)], names[:cap(names)])
	}
}
