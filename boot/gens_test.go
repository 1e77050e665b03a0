package boot_test

import (
	"math"
	"testing"

	"bootjack/api"
	"bootjack/boot"
)

func mustAdd(t *testing.T, m api.Menu, path string, want api.Menu) {
	t.Helper()
	got, n, e := boot.Add(m, path)
	if e != api.OK || n != want.Last || show(got) != show(want) {
		t.Errorf("Add(%s, %s): %s, %d, %d; must be %s", show(m), path, show(got), n, e, show(want))
	}
}

func mustNotAdd(t *testing.T, m api.Menu, path string, want api.Errno) {
	t.Helper()
	got, n, e := boot.Add(m, path)
	if e != want || n != 0 || show(got) != show(api.Menu{}) {
		t.Errorf("Add(%s, %.100q): %s, %d, %d; must be %d", show(m), path, show(got), n, e, want)
	}
}

func TestX3Add(t *testing.T) {
	mustAdd(t, api.Menu{}, p, menu(1, 0, 0, 0, gen(1, p)))
	mustAdd(t, api.Menu{Gens: []api.Generation{}}, p, menu(1, 0, 0, 0, gen(1, p)))
	mustAdd(t, menu(1, 1, 1, 1, gen(1, p)), p, menu(2, 1, 1, 1, gen(1, p), gen(2, p)))
	// The number is the one behind Last, not behind the generations.
	mustAdd(t, menu(7, 0, 0, 0), q, menu(8, 0, 0, 0, gen(8, q)))
	mustAdd(t, menu(7, 2, 3, 2, gen(2, p), gen(3, r)), q, menu(8, 2, 3, 2, gen(2, p), gen(3, r), gen(8, q)))
	mustAdd(t, menu(15, 0, 0, 0, gens(row(15)...)...), p, menu(16, 0, 0, 0, gens(row(16)...)...))
	mustAdd(t, menu(999998, 1, 0, 0, gen(1, p)), r, menu(999999, 1, 0, 0, gen(1, p), gen(999999, r)))
}

func TestX3AddRefused(t *testing.T) {
	full, last := menu(20, 1, 0, 0, gens(row(16)...)...), menu(999999, 1, 0, 0, gen(1, p))
	mustNotAdd(t, full, p, api.ErrFull)
	mustNotAdd(t, last, p, api.ErrFull)
	mustNotAdd(t, menu(999999, 0, 0, 0, gens(row(16)...)...), p, api.ErrFull)
	mustNotAdd(t, menu(999999, 0, 0, 0), p, api.ErrFull)
	for _, path := range wrongPaths() {
		for _, m := range []api.Menu{{}, full, last, menu(3, 1, 2, 3, gens(1, 2, 3)...)} {
			mustNotAdd(t, m, path, api.ErrStore)
		}
	}
}

// A number that was removed is not given again (X5).
func TestX3AddBehindRemove(t *testing.T) {
	m := menu(3, 1, 0, 0, gens(1, 2, 3)...)
	m, e := boot.Remove(m, 3)
	mustBe(t, "Remove", e, api.OK)
	m, e = boot.Remove(m, 2)
	mustBe(t, "Remove", e, api.OK)
	mustAdd(t, m, q, menu(4, 1, 0, 0, gen(1, p), gen(4, q)))
}

func TestX3Remove(t *testing.T) {
	m := menu(9, 3, 5, 7, gen(1, p), gen(3, q), gen(5, r), gen(6, p), gen(7, q), gen(9, r))
	for _, n := range []int{1, 6, 9} {
		want := menu(9, 3, 5, 7)
		for _, g := range m.Gens {
			if g.Number != n {
				want.Gens = append(want.Gens, g)
			}
		}
		if got, e := boot.Remove(m, n); e != api.OK || show(got) != show(want) {
			t.Errorf("Remove(%d): %d, %s; must be %s", n, e, show(got), show(want))
		}
	}
	if got, e := boot.Remove(menu(4, 0, 0, 0, gen(4, p)), 4); e != api.OK || show(got) != show(menu(4, 0, 0, 0)) {
		t.Errorf("Remove of the only one: %d, %s", e, show(got))
	}
	refused := map[int]api.Errno{3: api.ErrKept, 5: api.ErrKept, 7: api.ErrKept}
	for _, n := range noNumbers {
		refused[n] = api.ErrGen
	}
	for n, want := range refused {
		if got, e := boot.Remove(m, n); e != want || show(got) != show(api.Menu{}) {
			t.Errorf("Remove(%d): %d, %s; must be %d", n, e, show(got), want)
		}
	}
}

// noNumbers are numbers that no generation of 1, 3, 5, 6, 7, 9 has.
var noNumbers = []int{0, -1, 2, 4, 8, 10, 1000000, math.MaxInt, math.MinInt}

// The 0 that stands for none is no generation's number, and so is not kept.
func TestX3NothingHasTheNumber0(t *testing.T) {
	for _, m := range []api.Menu{{}, menu(1, 0, 0, 0, gen(1, p)), menu(1, 1, 0, 1, gen(1, p))} {
		_, a := boot.Remove(m, 0)
		_, b := boot.Default(m, 0)
		_, c := boot.Next(m, 0)
		if a != api.ErrGen || b != api.ErrGen || c != api.ErrGen {
			t.Errorf("%s: %d, %d, %d", show(m), a, b, c)
		}
	}
}

func TestX3DefaultAndNext(t *testing.T) {
	l := []api.Generation{gen(1, p), gen(3, q), gen(5, r), gen(6, p), gen(7, q), gen(9, r)}
	for _, m := range []api.Menu{menu(9, 3, 5, 7, l...), menu(12, 0, 0, 0, l...), menu(9, 1, 1, 1, l...)} {
		for _, g := range l {
			n := g.Number
			if got, e := boot.Default(m, n); e != api.OK || show(got) != show(menu(m.Last, n, 0, 0, l...)) {
				t.Errorf("Default(%s, %d): %d, %s", show(m), n, e, show(got))
			}
			if got, e := boot.Next(m, n); e != api.OK || show(got) != show(menu(m.Last, m.Default, n, m.Trial, l...)) {
				t.Errorf("Next(%s, %d): %d, %s", show(m), n, e, show(got))
			}
		}
		for _, n := range noNumbers {
			if got, e := boot.Default(m, n); e != api.ErrGen || show(got) != show(api.Menu{}) {
				t.Errorf("Default(%s, %d): %d, %s", show(m), n, e, show(got))
			}
			if got, e := boot.Next(m, n); e != api.ErrGen || show(got) != show(api.Menu{}) {
				t.Errorf("Next(%s, %d): %d, %s", show(m), n, e, show(got))
			}
		}
	}
}

func TestX3Before(t *testing.T) {
	type told struct {
		n, want int
		ok      bool
	}
	for _, x := range []struct {
		m     api.Menu
		tells []told
	}{
		{api.Menu{}, []told{{0, 0, false}, {1, 0, false}, {math.MaxInt, 0, false}, {math.MinInt, 0, false}}},
		{menu(9, 5, 0, 0, gens(2, 5, 6, 9)...), []told{{-1, 0, false}, {0, 0, false}, {1, 0, false}, {2, 0, false}, {3, 2, true}, {5, 2, true}, {6, 5, true}, {7, 6, true}, {9, 6, true}, {10, 9, true}, {math.MaxInt, 9, true}}},
		{menu(1, 1, 0, 0, gens(1)...), []told{{1, 0, false}, {2, 1, true}}},
		// Of menus that may not be as well.
		{menu(-1, 99, 99, 99, gens(6, 2, 9, 2, 5)...), []told{{2, 0, false}, {3, 2, true}, {5, 2, true}, {6, 5, true}, {9, 6, true}, {100, 9, true}}},
		{menu(0, 0, 0, 0, gens(-3, 0, -7, 4)...), []told{{-7, 0, false}, {-6, -7, true}, {-3, -7, true}, {0, -3, true}, {1, 0, true}, {4, 0, true}, {5, 4, true}}},
		{menu(0, 0, 0, 0, gens(math.MaxInt, math.MinInt)...), []told{{math.MinInt, 0, false}, {0, math.MinInt, true}, {math.MaxInt, math.MinInt, true}}},
		{menu(0, 0, 0, 0, gen(3, "")), []told{{4, 3, true}, {3, 0, false}}},
		{menu(0, 0, 0, 0, gens(row(1000)...)...), []told{{1000, 999, true}, {2000, 1000, true}}},
	} {
		for _, y := range x.tells {
			if n, ok := boot.Before(x.m, y.n); n != y.want || ok != y.ok {
				t.Errorf("Before(%.200s, %d): %d, %t; must be %d, %t", show(x.m), y.n, n, ok, y.want, y.ok)
			}
		}
	}
}

func mustLoad(t *testing.T, m, want api.Menu, n int, trial bool) {
	t.Helper()
	got, k, ok := boot.Load(m)
	if show(got) != show(want) || k != n || ok != trial {
		t.Errorf("Load of %s: %s, %d, %t; must be %s, %d, %t", show(m), show(got), k, ok, show(want), n, trial)
	}
}

func TestX4Load(t *testing.T) {
	l := gens(1, 2, 3)
	mustLoad(t, api.Menu{}, api.Menu{}, 0, false)
	mustLoad(t, menu(3, 0, 0, 0, l...), menu(3, 0, 0, 0, l...), 0, false)
	mustLoad(t, menu(3, 2, 0, 0, l...), menu(3, 2, 0, 0, l...), 2, false)
	mustLoad(t, menu(3, 2, 0, 3, l...), menu(3, 2, 0, 0, l...), 2, false)
	mustLoad(t, menu(3, 0, 0, 3, l...), menu(3, 0, 0, 0, l...), 0, false)
	mustLoad(t, menu(3, 2, 1, 0, l...), menu(3, 2, 0, 1, l...), 1, true)
	mustLoad(t, menu(3, 2, 1, 3, l...), menu(3, 2, 0, 1, l...), 1, true)
	mustLoad(t, menu(3, 2, 2, 2, l...), menu(3, 2, 0, 2, l...), 2, true)
	mustLoad(t, menu(3, 0, 3, 0, l...), menu(3, 0, 0, 3, l...), 3, true)
	// Of menus that may not be as well.
	mustLoad(t, menu(-1, -2, -3, -4), menu(-1, -2, 0, -3), -3, true)
	mustLoad(t, menu(-1, -2, 0, -4, gen(0, "")), menu(-1, -2, 0, 0, gen(0, "")), -2, false)
	mustLoad(t, menu(0, 7, math.MinInt, 7, gens(3, 2)...), menu(0, 7, 0, math.MinInt, gens(3, 2)...), math.MinInt, true)
}

// What is loaded on trial is loaded once, unless Next is called again (X5).
func TestX5ATrialIsLoadedOnce(t *testing.T) {
	m := menu(2, 1, 0, 0, gens(1, 2)...)
	for range 3 {
		m, _ = boot.Next(m, 2)
		mustLoad(t, m, menu(2, 1, 0, 2, gens(1, 2)...), 2, true)
		m, _, _ = boot.Load(m)
		for range 3 {
			mustLoad(t, m, menu(2, 1, 0, 0, gens(1, 2)...), 1, false)
			m, _, _ = boot.Load(m)
		}
	}
	// Next on trial again, and a default in between.
	m, _ = boot.Next(m, 2)
	m, _, _ = boot.Load(m)
	m, _ = boot.Next(m, 2)
	mustLoad(t, m, menu(2, 1, 0, 2, gens(1, 2)...), 2, true)
	m, _ = boot.Default(m, 1)
	mustLoad(t, m, menu(2, 1, 0, 0, gens(1, 2)...), 1, false)
}

// The examples of the chapter.
func TestXExamples(t *testing.T) {
	mustAdd(t, api.Menu{}, p, menu(1, 0, 0, 0, gen(1, p)))
	one, _, _ := boot.Add(api.Menu{}, p)
	m, _ := boot.Default(one, 1)
	same(t, "Default", show(m), show(menu(1, 1, 0, 0, gen(1, p))))
	m, _ = boot.Next(m, 1)
	same(t, "Next", show(m), show(menu(1, 1, 1, 0, gen(1, p))))
	mustLoad(t, m, menu(1, 1, 0, 1, gen(1, p)), 1, true)
	m, _, _ = boot.Load(m)
	mustLoad(t, m, menu(1, 1, 0, 0, gen(1, p)), 1, false)
	m, _, _ = boot.Load(m)
	_, e := boot.Remove(m, 1)
	mustBe(t, "Remove", e, api.ErrKept)
	if n, ok := boot.Before(m, 1); n != 0 || ok {
		t.Error("Before", n, ok)
	}
	if n, ok := boot.Before(m, 2); n != 1 || !ok {
		t.Error("Before", n, ok)
	}
	mustWrite(t, api.Menu{}, lines("menu", "last 0", "default 0", "next 0", "trial 0", "end"))
	mustNotAdd(t, api.Menu{}, "/store/x", api.ErrStore)
	_, e = boot.Default(api.Menu{}, 1)
	mustBe(t, "Default", e, api.ErrGen)
	mustNotParse(t, "menu")
}
