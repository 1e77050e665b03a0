package boot_test

import (
	"slices"
	"testing"

	"bootjack/api"
	"bootjack/boot"
)

// roomy gives generations with room to spare behind them.
func roomy(l ...api.Generation) []api.Generation {
	return append(make([]api.Generation, 0, len(l)+10), l...)
}

// spoil writes over all that a list has room for.
func spoil(l []api.Generation) {
	for i := range l[:cap(l)] {
		l[:cap(l)][i] = gen(-1, "spoilt")
	}
}

func isClear(l []api.Generation) bool {
	return !slices.ContainsFunc(l[len(l):cap(l)], func(g api.Generation) bool { return g != api.Generation{} })
}

// calls are all that make a menu of one.
func calls() map[string]func(m api.Menu) api.Menu {
	return map[string]func(m api.Menu) api.Menu{
		"Add": func(m api.Menu) api.Menu {
			out, _, _ := boot.Add(m, q)
			return out
		},
		"Remove": func(m api.Menu) api.Menu {
			out, _ := boot.Remove(m, 2)
			return out
		},
		"Remove of the last": func(m api.Menu) api.Menu {
			out, _ := boot.Remove(m, 9)
			return out
		},
		"Default": func(m api.Menu) api.Menu {
			out, _ := boot.Default(m, 2)
			return out
		},
		"Next": func(m api.Menu) api.Menu {
			out, _ := boot.Next(m, 2)
			return out
		},
		"Load": func(m api.Menu) api.Menu {
			out, _, _ := boot.Load(m)
			return out
		},
	}
}

// What is handed in stays as it is, its spare room included, and no answer shares memory with it or with another one (R3).
func TestR3Memory(t *testing.T) {
	for _, l := range [][]api.Generation{roomy(), roomy(gen(2, p)), roomy(gen(1, p), gen(2, q), gen(9, r))} {
		for what, call := range calls() {
			m := menu(9, 0, 0, 0, l...)
			m.Gens = roomy(l...)
			ahead := show(m)
			boot.Right(m)
			boot.Text(m)
			boot.Before(m, 3)
			a, b := call(m), call(m)
			want := show(a)
			if show(m) != ahead || !isClear(m.Gens) {
				t.Errorf("%s changes what is handed in: %s", what, show(m))
			}
			spoil(m.Gens)
			same(t, what+", spoilt by what was handed in", show(a), want)
			spoil(a.Gens)
			same(t, what+", spoilt by another answer", show(b), want)
		}
	}
}

func TestR3ParseIsTheCallers(t *testing.T) {
	text := lines("menu", "last 3", "default 1", "next 0", "trial 0", "gen 1 "+p, "gen 3 "+q, "end")
	a, _ := boot.Parse(text)
	b, _ := boot.Parse(text)
	spoil(a.Gens)
	same(t, "Parse", show(b), show(menu(3, 1, 0, 0, gen(1, p), gen(3, q))))
	f := made(t, 100)
	m := menu(3, 1, 0, 0, gen(1, p), gen(3, q))
	want := show(m)
	f.write(m)
	spoil(m.Gens)
	f.mustRead(want)
	a, _ = boot.Read(f.FS)
	spoil(a.Gens)
	f.mustRead(want)
}
