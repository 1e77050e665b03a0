package config_test

import (
	"slices"
	"testing"

	"bootjack/api"
	"bootjack/config"
)

// spoilValue writes over all that a value's lists have room for.
func spoilValue(v *api.Value) {
	for i := range v.Items {
		spoilValue(&v.Items[i])
	}
	spoilAll(v.Names, "spoilt")
	spoilAll(v.Items, api.Value{Kind: api.VString, Text: "spoilt"})
}

func spoilAll[T any](l []T, with T) {
	for i := range l[:cap(l)] {
		l[:cap(l)][i] = with
	}
}

// spoilUnits writes over the units' lists alone.
func spoilUnits(l []api.Unit) {
	for _, u := range l {
		spoilAll(u.Requires, "spoilt")
		spoilAll(u.After, "spoilt")
	}
}

// rich is a configuration that has something of everything.
func rich() []api.Module {
	return list("main", `c: { imports = [ "b" ]; config = mkMerge [ { users = [ "u" "a" ]; } { l = c.m; n = c.m; } ]; }`,
		"b", `{ `+preset("m", "list list string", `[ [ "x" ] [ "y" "z" ] ]`)+option("l", "list list string")+option("n", "list list string")+preset("s", "attrs attrs int", "{ a.b = 1; c = { }; }")+
			` config.files = { a = "x"; "b/c" = "y"; }; config.services = { w = { requires = [ "n" ]; after = [ "n" "q" ]; start = "s"; }; n = { after = [ "q" ]; }; }; config.asserts.ok = true; }`)
}

// What is answered is the caller's own: no two lists of it share memory, and no
// two answers do.
func TestR3Answers(t *testing.T) {
	tell := func() api.Config {
		c, _, err := config.Evaluate(rich(), "main", 10000)
		if err != nil {
			t.Fatalf("%+v", err)
		}
		return c
	}
	want := written(tell())
	spoilers := []func(c *api.Config){
		func(c *api.Config) { spoilAll(c.Users, "spoilt"); c.Users = tell().Users },
		func(c *api.Config) { spoilAll(c.Files, api.Pair{Name: "spoilt"}); c.Files = tell().Files },
		func(c *api.Config) {
			spoilUnits(c.Units)
			spoilAll(c.Units, api.Unit{Name: "spoilt"})
			c.Units = tell().Units
		},
	}
	for i := range tell().Settings {
		spoilers = append(spoilers, func(c *api.Config) {
			spoilValue(&c.Settings[i].Value)
			c.Settings[i].Value = tell().Settings[i].Value
		})
	}
	for i := range tell().Units {
		spoilers = append(spoilers, func(c *api.Config) {
			spoilAll(c.Units[i].Requires, "spoilt")
			c.Units[i].Requires = tell().Units[i].Requires
			spoilAll(c.Units[i].After, "spoilt")
			c.Units[i].After = tell().Units[i].After
		})
	}
	for i, spoil := range spoilers {
		c, other := tell(), tell()
		spoil(&c)
		if got := written(c); got != want {
			t.Errorf("spoiler %d: %s; must be %s", i, got, want)
		}
		if got := written(other); got != want {
			t.Errorf("spoiler %d: another answer: %s; must be %s", i, got, want)
		}
	}
	// Within a value, too.
	c := tell()
	i := slices.IndexFunc(c.Settings, func(s api.Setting) bool { return s.Path == "l" })
	v := c.Settings[i].Value
	spoilAll(v.Items[0].Items, api.Value{})
	if len(v.Items) != 2 || v.Items[1].Items[0].Text != "y" || v.Items[1].Items[1].Text != "z" {
		t.Errorf("%+v", v)
	}
}

// What is handed in is neither changed nor kept.
func TestR3Arguments(t *testing.T) {
	kept := rich()
	l := append(make([]api.Module, 0, 30), kept...)
	c, n, err := config.Evaluate(l, "main", 10000)
	if err != nil || !slices.Equal(l, kept) || slices.ContainsFunc(l[len(l):cap(l)], func(m api.Module) bool { return m != api.Module{} }) {
		t.Fatalf("%v, %v", l, err)
	}
	want := written(c)
	spoilAll(l, api.Module{Name: "spoilt", Text: "spoilt"})
	if got := written(c); got != want {
		t.Errorf("%s; must be %s", got, want)
	}
	if again, m, err := config.Evaluate(kept, "main", 10000); err != nil || m != n || written(again) != want {
		t.Errorf("%s, %d, %v", written(again), m, err)
	}
}
