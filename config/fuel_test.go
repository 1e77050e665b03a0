package config_test

import (
	"strings"
	"testing"

	"bootjack/api"
	"bootjack/config"
)

type stepRow struct {
	l     []string
	steps int
}

// stepRows are configurations, and the steps that they take, counted by hand:
// those of Load, those of each option by rising paths, those of the check.
func stepRows() map[string]stepRow {
	n := option("n", "int")
	const load = 1 + 8 // a set, and an option in it
	return map[string]stepRow{
		"nothing":                {[]string{"main", "{ }"}, 1 + 4},
		"a function":             {[]string{"main", "c: { }"}, 2 + 4},
		"an empty config":        {[]string{"main", "{ config = { }; }"}, 1 + (1 + 2) + 3*(1+1) + 1},
		"users":                  {[]string{"main", `{ config.users = [ "a" ]; }`}, 1 + (1 + 2) + 2 + 2 + (1 + 1 + 2 + 3) + 1},
		"two users":              {[]string{"main", `{ config.users = [ "a" "b" ]; }`}, 1 + (1 + 2) + 2 + 2 + (1 + 1 + 2 + 5) + 1},
		"one that is defined":    {[]string{"main", "{ " + n + " config.n = 1; }"}, load + (1 + 2) + 2 + (1 + 2 + 1) + 2 + 2 + 1},
		"one within sets":        {[]string{"main", "{ " + option("a.b", "int") + " config.a.b = 1; }"}, load + 2 + (1 + 1 + 2 + 2 + 1) + 4*(1+1) + (1 + 1)},
		"a default":              {[]string{"main", "{ " + preset("n", "int", "1") + " }"}, load + 4 + 2},
		"the config":             {[]string{"main", "c: { " + preset("n", "int", "length (names c)") + " }"}, 1 + load + 4 + (1 + 3 + 4)},
		"a set in it":            {[]string{"main", "c: { " + preset("a.b", "int", "length (names c.a)") + " }"}, 1 + load + 2 + 4 + (1 + 3 + 3 + 2)},
		"mkIf":                   {[]string{"main", "{ " + n + " config.n = mkIf true 1; }"}, load + (1 + 2) + 2 + (1 + (1 + 4 + 1) + 2 + 1) + 2 + 2 + 1},
		"mkIf, bare":             {[]string{"main", "{ " + n + ` config.n = { _is = "if"; value = 1; when = true; }; }`}, load + (1 + 2) + 2 + (1 + (1 + 1 + 1 + 1) + 2 + 1) + 2 + 2 + 1},
		"mkIf false":             {[]string{"main", "{ config.users = mkIf false (1 / 0); }"}, 1 + (1 + 2) + 2 + 2 + (1 + 1 + (1 + 4 + 1)) + 1},
		"mkOverride":             {[]string{"main", "{ " + n + " config.n = mkOverride 5 1; }"}, load + (1 + 2) + 2 + (1 + (1 + 4 + 1) + 2 + 1) + 2 + 2 + 1},
		"mkForce":                {[]string{"main", "{ " + n + " config.n = mkForce 1; }"}, load + (1 + 2) + 2 + (1 + (1 + 3) + 2 + 1) + 2 + 2 + 1},
		"mkOrder":                {[]string{"main", "{ " + n + " config.n = mkOrder 5 1; }"}, load + (1 + 2) + 2 + (1 + (1 + 4 + 1) + 2 + 1) + 2 + 2 + 1},
		"mkMerge":                {[]string{"main", "{ " + n + " config.n = mkMerge [ 1 1 ]; }"}, load + (1 + 2) + 2 + (1 + (1 + 3 + 1) + 2*(2+1)) + 2 + 2 + 1},
		"marks that are checked": {[]string{"main", "{ config = mkIf true (mkMerge [ { } { } ]); }"}, 1 + (1 + (1 + 4 + 1) + (1 + 3 + 1) + 2 + 2) + 3*(1+4) + 4},
		"one asked for twice":    {[]string{"main", "c: { " + preset("a", "int", "c.b") + preset("b", "int", "1") + " }"}, 1 + load + 6 + (1 + 2 + 2) + 4},
		"sets that are checked":  {[]string{"main", "{ " + option("a.b", "int") + option("a.c", "int") + " config.a = { b = 1; c = 1; }; }"}, load + 2 + 6 + (1 + 1 + 2 + 2 + 1) + (1 + 1 + 2 + 1) + 4*(1+1) + (1 + 1)},
		"modules":                {[]string{"main", `{ imports = [ "b" ]; config = { }; }`, "b", "{ config = { }; }"}, 1 + 2 + 1 + (1 + 2 + 2) + 3*(1+2) + 2},
		"a loop":                 {[]string{"main", "config: { config.users = config.users; }"}, 2 + (1 + 2) + 2 + 2 + (1 + 1 + (1 + 2))},
		"no option":              {[]string{"main", "{ config.a = 1; }"}, 1 + (1 + 2) + 2 + 2 + 2 + 1},
		"unset":                  {[]string{"main", "{ " + n + " }"}, load + 2},
		"no set":                 {[]string{"main", "{ config = 5; }"}, 1 + (1 + 2)},
		"a wrong mark":           {[]string{"main", "{ config._is = 5; }"}, 1 + (1 + 2 + 1)},
		"a mark without value":   {[]string{"main", `{ config = { _is = "if"; when = true; }; }`}, 1 + (1 + 2 + 1)},
		"a wrong condition":      {[]string{"main", "{ config = mkIf 5 { }; }"}, 1 + (1 + (1 + 4 + 1))},
		"an assertion":           {[]string{"main", "{ config.asserts.a = false; }"}, 1 + (1 + 2 + 2 + 3) + 3*(1+1) + 1},
		"a file's name":          {[]string{"main", `{ config.files.A = "x"; }`}, 1 + (1 + 2) + (1 + 1 + 2 + 3) + 2 + 2 + 1},
		"a wrong type":           {[]string{"main", "{ config.asserts = 5; }"}, 1 + (1 + 2 + 2 + 1)},
		"Load's error":           {[]string{"main", "5"}, 1},
	}
}

// With more fuel than was needed the answer is the same, with less it is
// ErrFuel, also where the answer is another error.
func TestG1Steps(t *testing.T) {
	for what, c := range stepRows() {
		l := list(c.l...)
		a := evaluate(t, l, "main", api.MaxFuel)
		if a.steps != c.steps {
			t.Errorf("%s: %d steps; must be %d (%+v)", what, a.steps, c.steps, a.trouble)
		}
		for _, fuel := range []int{a.steps, a.steps + 1, 2*a.steps + 7} {
			if b := evaluate(t, l, "main", fuel); a != b {
				t.Errorf("%s, fuel %d: %+v; must be %+v", what, fuel, b, a)
			}
		}
		for fuel := range a.steps {
			if b := evaluate(t, l, "main", fuel); b.trouble.Err != api.ErrFuel || b.trouble.Option != "" || b.steps != fuel {
				t.Errorf("%s, fuel %d: %+v", what, fuel, b)
			}
		}
	}
}

// A step of finding is told at the node that asked for the option, one that no
// node asked for nowhere.
func TestG1PlaceOfErrFuel(t *testing.T) {
	none := nowhere(api.ErrFuel)
	main := "c: { config.users = c.services.x or [ ]; }"
	name, dot := at(20, api.ErrFuel), at(21, api.ErrFuel)
	wants := []api.Trouble{
		at(0, api.ErrFuel), at(3, api.ErrFuel), // Load
		none, none, at(5, api.ErrFuel), // asserts
		none, none, none, none, // files, services
		none, none, none, at(30, api.ErrFuel), dot, name, at(36, api.ErrFuel), none, // users
		none, // the check
	}
	for fuel, want := range wants {
		if a := evaluate(t, list("main", main), "main", fuel); a.trouble != want {
			t.Errorf("fuel %d: %+v; must be %+v", fuel, a.trouble, want)
		}
	}
	if a := evaluate(t, list("main", main), "main", len(wants)); a.trouble.Err != api.OK {
		t.Errorf("%+v", a)
	}
	// Here asserts asks for users, which takes steps of its own: a default, two of finding, the list, telling it.
	main = "c: { config.asserts.a = length c.users == 0; config.users = [ ]; }"
	dot = at(strings.Index(main, ".users"), api.ErrFuel)
	first := 2 + 1 + 2 + 2 + 1 + 1 + 6 // up to c in c.users
	for i, want := range []api.Trouble{dot, dot, dot, at(strings.Index(main, "[ ]"), api.ErrFuel), dot} {
		if a := evaluate(t, list("main", main), "main", first+i); a.trouble != want {
			t.Errorf("step %d: %+v; must be %+v", i, a.trouble, want)
		}
	}
}

// Options that ask for one another are within one another.
func TestG1Nest(t *testing.T) {
	chain := func(n int) string {
		s := "c: { "
		for i, name := range numbered(60) {
			s += "options." + name + ` = mkOption { type = "int"; default = `
			if i == n {
				return s + "1; }; }"
			}
			s += "c." + numbered(60)[i+1] + "; }; "
		}
		return s
	}
	if a := evaluate(t, list("main", chain(20)), "main", api.MaxFuel); a.trouble.Err != api.OK {
		t.Errorf("%+v", a)
	}
	// A function that nests 150 nodes and then asks for an option that nests as many.
	f := "let f = n: if n == 0 then 0 else n + f (n - 1); in c: { " + preset("a", "int", "c.b + f 30") + preset("b", "int", "f 30") + " }"
	if a := evaluate(t, list("main", f), "main", api.MaxFuel); a.trouble.Err != api.OK {
		t.Errorf("%+v", a)
	}
	g := "let f = c: n: if n == 0 then c.b else n + f c (n - 1); in c: { " + preset("a", "int", "f c 40") + preset("b", "int", "f { b = 1; } 40") + " }"
	if a := evaluate(t, list("main", g), "main", api.MaxFuel); a.trouble.Err != api.ErrDeep || a.trouble.Module != "main" {
		t.Errorf("%+v", a)
	}
}

// However much a configuration asks for, it ends.
func TestR1Ends(t *testing.T) {
	wide := strings.Repeat("x ", 256)
	for _, text := range []string{
		"let x = mkIf true x; in { config = x; }",
		"let x = mkForce x; in { config.users = x; }",
		"let x = mkMerge [ x ]; in { config = x; }",
		"let x = mkMerge [ x x ]; in { config.users = x; }",
		"let x = mkMerge [ " + wide + " ]; in { config = x; }",
		"let x = mkMerge [ { } x ]; in { config = x; }",
		"let f = n: mkMerge [ { users = [ ]; } (f (n + 1)) ]; in { config = f 0; }",
		"let x = { _is = \"merge\"; values = [ x x ]; }; in { config = mkIf true x; }",
		"let x = [ x ]; in { config.users = x; }",
		"let x = { users = x; a = x; }; in { config.files = x; }",
	} {
		a := evaluate(t, list("main", text), "main", api.MaxFuel)
		if a.trouble.Err != api.ErrFuel && a.trouble.Err != api.ErrDeep {
			t.Errorf("%.60s: %+v", text, a)
		}
	}
	// Every fuel is enough for an answer.
	for fuel := range 200 {
		if a := evaluate(t, list("main", "let x = mkMerge [ x { } x ]; in { config = x; }"), "main", fuel); a.trouble.Err != api.ErrFuel || a.steps != fuel {
			t.Errorf("%d: %+v", fuel, a)
		}
	}
}

// As much as there may be: 16 modules, 64 options, definitions of each in each.
func TestG1Greatest(t *testing.T) {
	names := numbered(60)
	var l []api.Module
	imports, want := "", ""
	for i := range 15 {
		name := "m" + string(rune('a'+i))
		imports += `"` + name + `" `
		l = append(l, api.Module{Name: name, Text: "{ config = " + each(names, `"`+name+`"`) + "; }"})
		want += "\\n" + name
	}
	main := `let o = mkOption { type = "lines"; default = "no"; }; in { imports = [ ` + imports + "]; options = " + each(names, "o") + "; }"
	l = append(l, api.Module{Name: "main", Text: main})
	c, n, err := config.Evaluate(l, "main", api.MaxFuel)
	if err != nil || len(c.Settings) != 64 {
		t.Fatalf("%d settings, %d steps, %v", len(c.Settings), n, err)
	}
	if got := written(c); strings.Count(got, ` = "`+want[2:]+`"`) != 60 {
		t.Error(got)
	}
	if n < 60*15*4 {
		t.Errorf("%d steps", n)
	}
}
