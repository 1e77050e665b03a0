package modules_test

import (
	"strings"
	"testing"

	"bootjack/api"
)

// stepRows are modules, and the steps that they take, counted by hand.
func stepRows() map[string]struct {
	l     []string
	steps int
} {
	type row = struct {
		l     []string
		steps int
	}
	return map[string]row{
		"a set":                        {[]string{"main", "{ }"}, 1},
		"what is not needed":           {[]string{"main", "{ config = 1 / 0; imports = [ ]; }"}, 2},
		"a function":                   {[]string{"main", "c: { }"}, 2},
		"a let":                        {[]string{"main", "let x = 1; in { }"}, 2},
		"imports":                      {[]string{"main", `{ imports = [ "b" "b" ]; }`, "b", "c: { }"}, 6},
		"those that were visited":      {[]string{"main", `{ imports = [ "b" ]; }`, "b", `{ imports = [ "main" "b" ]; }`}, 7},
		"no options":                   {[]string{"main", "{ options = { }; }"}, 3},
		"sets within":                  {[]string{"main", "{ options.a.b = { }; }"}, 7},
		"an option":                    {[]string{"main", "{ options.a = " + whole + "; }"}, 9},
		"one with a default":           {[]string{"main", "{ options.a = " + withOne + "; }"}, 9},
		"one without mkOption":         {[]string{"main", `{ options.a = { _is = "option"; type = "int"; default = 1; }; }`}, 7},
		"one known already":            {[]string{"main", `let o = mkOption { type = "int"; }; in { options = { a = o; b = o; }; }`}, 1 + 1 + (1 + 1) + (1 + 1 + 4 + 1) + (1 + 1)},
		"a text that can't be read":    {[]string{"main", "{ "}, 0},
		"no such module":               {[]string{"main", `{ imports = [ "no" ]; }`}, 3},
		"no set":                       {[]string{"main", "c: [ ]"}, 2},
		"another name":                 {[]string{"main", "{ more = 1; }"}, 1},
		"no list":                      {[]string{"main", "{ imports = 1; }"}, 2},
		"no string":                    {[]string{"main", "{ imports = [ 1 2 ]; }"}, 3},
		"options that are none":        {[]string{"main", "{ options = 1; }"}, 3},
		"a name that may not be":       {[]string{"main", `{ options."a b" = 1; }`}, 3},
		"a mark of something else":     {[]string{"main", "{ options.a = mkForce 1; }"}, 7},
		"no path":                      {[]string{"main", "{ options = " + whole + "; }"}, 1 + 5},
		"no type":                      {[]string{"main", "{ options.a = mkOption { }; }"}, 8},
		"a type that is none":          {[]string{"main", `{ options.a = mkOption { type = "no"; }; }`}, 9},
		"declared already":             {[]string{"main", "{ options.users = " + whole + "; }"}, 9},
		"a path that is too long":      {[]string{"main", "{ options = let s = { a = s; }; in s; }"}, 1 + (1 + 3) + (1 + 1) + 8},
		"the config":                   {[]string{"main", "c: { imports = c; }"}, 3},
		"the config, of a built-in":    {[]string{"main", "head"}, 2},
		"an error of what is imported": {[]string{"main", `{ imports = [ "b" ]; options = 1; }`, "b", "1 / 0"}, 6},
	}
}

// With more fuel than was needed the answer is the same, with less it is
// ErrFuel, also where the answer is another error.
func TestM1Steps(t *testing.T) {
	for what, c := range stepRows() {
		l := list(c.l...)
		a := load(t, l, "main", api.MaxFuel)
		if a.steps != c.steps {
			t.Errorf("%s: %d steps; must be %d", what, a.steps, c.steps)
		}
		for _, fuel := range []int{a.steps, a.steps + 1, 2*a.steps + 7} {
			if b := load(t, l, "main", fuel); !alike(a, b) {
				t.Errorf("%s, fuel %d: %+v; must be %+v", what, fuel, b, a)
			}
		}
		for fuel := range a.steps {
			if b := load(t, l, "main", fuel); b.trouble.Err != api.ErrFuel || b.trouble.Option != "" || b.steps != fuel {
				t.Errorf("%s, fuel %d: %+v", what, fuel, b)
			}
		}
	}
}

// A step of a node is told at it, one of looking at options nowhere.
func TestM1PlaceOfErrFuel(t *testing.T) {
	nowhere := api.Trouble{Err: api.ErrFuel}
	in := func(module string, place int) api.Trouble {
		return api.Trouble{Module: module, At: place, Err: api.ErrFuel}
	}
	l := list("main", ` c: { imports = [ "b" ]; options = { }; }`, "b", `  { options.a = mkOption { type = "int"; }; }`)
	wants := []api.Trouble{
		in("main", 1), in("main", 4), in("main", 16), in("main", 18), in("b", 2), nowhere, in("main", 35),
		nowhere, in("b", 4), nowhere, in("b", 16), in("b", 16), in("b", 16), in("b", 25), in("b", 34),
	}
	for fuel, want := range wants {
		if a := load(t, l, "main", fuel); a.trouble != want {
			t.Errorf("fuel %d: %+v; must be %+v", fuel, a.trouble, want)
		}
	}
	if a := load(t, l, "main", len(wants)); a.trouble.Err != api.OK {
		t.Errorf("%+v", a)
	}
}

// However much a text asks for, it ends.
func TestR1Ends(t *testing.T) {
	wide := "{ " + strings.Repeat("x", 9) + " = s; "
	for c := 'a'; c <= 'z'; c++ {
		wide += string(c) + " = s; "
	}
	for _, text := range []string{
		"let f = n: f (n + 1); in f 0",
		"let l = [ 1 1 1 1 1 1 1 1 1 1 ]; m = map (x: l) l; f = g: fold (a: x: g a) 0 m; in { imports = fold (a: x: fold (b: y: fold (c: z: c + 1) b l) a l) 0 (l ++ l ++ l ++ l ++ l ++ l ++ l ++ l ++ l ++ l ++ l ++ l); }",
		"{ options = let s = { }; t = " + wide + "}; u = " + strings.ReplaceAll(wide, "= s", "= t") + "}; v = " + strings.ReplaceAll(wide, "= s", "= u") + "}; w = " + strings.ReplaceAll(wide, "= s", "= v") + "}; in w; }",
	} {
		a := load(t, list("main", text), "main", api.MaxFuel)
		if a.trouble.Err == api.OK {
			t.Errorf("%.50s: %+v", text, a)
		}
	}
	a := load(t, list("main", "{ options = let s = { }; t = "+wide+"}; u = "+strings.ReplaceAll(wide, "= s", "= t")+"}; in u; }"), "main", api.MaxFuel)
	if a.trouble.Err != api.OK || a.steps < 27*27 {
		t.Errorf("%+v", a)
	}
}
