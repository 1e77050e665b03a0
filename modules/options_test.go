package modules_test

import (
	"slices"
	"strings"
	"testing"

	"bootjack/api"
	"bootjack/modules"
)

// own are the options that are there from the beginning.
func own() []modules.Option {
	return []modules.Option{
		{Path: "asserts", Type: "attrs bool", Default: true},
		{Path: "files", Type: "attrs lines", Default: true},
		{Path: "services", Type: "attrs unit", Default: true},
		{Path: "users", Type: "list string", Default: true},
	}
}

// declares asks for the options beside those of the beginning.
func declares(t *testing.T, want []modules.Option, l ...string) {
	t.Helper()
	a := load(t, list(l...), "main", api.MaxFuel)
	got := slices.DeleteFunc(slices.Clone(a.options), func(o modules.Option) bool { return slices.Contains(own(), o) })
	if a.trouble.Err != api.OK || !slices.Equal(got, want) || len(a.options) != len(want)+4 {
		t.Errorf("%.200v: %+v, %+v; must be %+v", l, got, a.trouble, want)
	}
	if !slices.IsSortedFunc(a.options, func(a, b modules.Option) int { return strings.Compare(a.Path, b.Path) }) {
		t.Errorf("%.200v: %+v", l, a.options)
	}
}

// wrong asks for an error of an option of the main module's.
func wrong(t *testing.T, e api.Errno, option, options string) {
	t.Helper()
	want := api.Trouble{Module: "main", Option: option, Err: e}
	refused(t, want, "main", "{ options = "+options+"; }")
	want.Module = "b"
	refused(t, want, "main", `{ imports = [ "b" ]; options = { }; }`, "b", "c: { options = "+options+"; }")
}

const (
	whole   = `mkOption { type = "int"; }`
	withOne = `mkOption { type = "int"; default = 1; }`
)

func TestM2OwnOptions(t *testing.T) {
	for _, text := range []string{"{ }", "{ options = { }; }", "{ options.a.b.c = { }; }", "c: { config = c; }"} {
		if a := load(t, list("main", text), "main", 100); !slices.Equal(a.options, own()) {
			t.Errorf("%s: %+v", text, a.options)
		}
	}
	for _, o := range own() {
		wrong(t, api.ErrDeclared, o.Path, "{ "+o.Path+" = "+whole+"; }")
		wrong(t, api.ErrDeclared, o.Path+".x", "{ "+o.Path+".x = "+whole+"; }")
		declares(t, []modules.Option{{Path: o.Path + "s", Type: "int", Module: "main"}}, "main", "{ options."+o.Path+"s = "+whole+"; }")
		declares(t, []modules.Option{{Path: "x." + o.Path, Type: "int", Module: "main"}}, "main", "{ options.x."+o.Path+" = "+whole+"; }")
	}
	declares(t, nil, "main", "{ options.users = { }; }")
}

func TestM2Options(t *testing.T) {
	declares(t, []modules.Option{{Path: "x", Type: "int", Module: "main", Default: true}}, "main", "{ options.x = "+withOne+"; }")
	declares(t, []modules.Option{{Path: "x", Type: "int", Module: "main"}}, "main", "{ options.x = "+whole+"; }")
	declares(t, []modules.Option{
		{Path: "Z", Type: "list int 1 2", Module: "main", Default: true},
		{Path: "a-b", Type: "int", Module: "main"},
		{Path: "a.b", Type: "enum a b", Module: "main", Default: true},
		{Path: "a.c.d", Type: "int", Module: "b", Default: true},
		{Path: "a_b", Type: "unit", Module: "c"},
		{Path: "zoo", Type: "float", Module: "main", Default: true},
	},
		"c", `{ options."a_b" = mkOption { type = "unit"; }; }`,
		"b", `{ imports = [ "c" ]; options.a.c.d = `+withOne+`; }`,
		"main", `config: { imports = [ "b" ]; options = { zoo = mkOption { default = config; type = "float"; }; a.b = mkOption { type = "enum " + "a b"; default = 1 / 0; }; Z = mkOption { type = "list int 1 2"; default = null; }; a-b = `+whole+`; }; }`,
	)
	// What an option has beside its type and default is not looked at; it needs no mkOption.
	declares(t, []modules.Option{{Path: "x", Type: "bool", Module: "main"}}, "main", `{ options.x = { _is = "option"; type = "bool"; "a b" = 1 / 0; value = 1; }; }`)
	declares(t, []modules.Option{{Path: "x", Type: "bool", Module: "main", Default: true}}, "main", `{ options.x = mkOption { _is = "if"; type = "bool"; default = y; }; }`)
	declares(t, []modules.Option{{Path: "x.y", Type: "bool", Module: "main"}, {Path: "z", Type: "bool", Module: "main"}}, "main", `let o = mkOption { type = "bool"; }; in { options = { x = { y = o; }; z = o; }; }`)
}

func TestM1OptionNames(t *testing.T) {
	for c := range 256 {
		name := string([]byte{'a', byte(c)})
		quoted := `"` + name + `"`
		if c == '"' || c == '\\' {
			quoted = `"a\` + string(rune(c)) + `"`
		}
		if c < 32 && c != 9 && c != 10 || c == 127 {
			continue
		}
		isRight := c >= 'a' && c <= 'z' || c >= 'A' && c <= 'Z' || c >= '0' && c <= '9' || c == '_' || c == '-'
		if isRight {
			declares(t, []modules.Option{{Path: name, Type: "int", Module: "main"}}, "main", "{ options."+quoted+" = "+whole+"; }")
		} else {
			wrong(t, api.ErrModule, name, "{ "+quoted+" = "+whole+"; }")
			wrong(t, api.ErrModule, "x.y."+name, "{ x.y."+quoted+" = 1 / 0; }")
		}
	}
	for _, name := range []string{"-", "_", "0", "9a", "--", "Az", "__is", "_Is", "is_", "type", "default", "or", "let", strings.Repeat("a", 1024)} {
		declares(t, []modules.Option{{Path: name, Type: "int", Module: "main"}}, "main", `{ options."`+name+`" = `+whole+`; }`)
	}
	wrong(t, api.ErrModule, "", `{ "" = `+whole+`; }`)
	wrong(t, api.ErrModule, "a.", `{ a."" = `+whole+`; }`)
	wrong(t, api.ErrModule, "a'", `{ a' = `+whole+`; }`)
	wrong(t, api.ErrModule, "a.b", `{ "a.b" = `+whole+`; }`)
	wrong(t, api.ErrModule, ".", `{ "." = `+whole+`; }`)
	// They are gone through as they rise, each ahead of what stands behind it.
	wrong(t, api.ErrModule, "a.b", `{ "b.c" = 1; "a" = { b = 5; c = 1 / 0; }; }`)
	wrong(t, api.ErrModule, "!", `{ a = 1 / 0; "!" = 1; }`)
	refused(t, at(27, api.ErrZero), "main", "{ options = { b = 1; a = 1 / 0; }; }")
}

func TestM1NoOptions(t *testing.T) {
	for _, text := range []string{"1", "null", "true", `"a"`, "1.5", "[ ]", "x: x", "[ (mkOption { }) ]", `"option"`} {
		wrong(t, api.ErrModule, "", text)
		wrong(t, api.ErrModule, "a", "{ a = "+text+"; }")
		wrong(t, api.ErrModule, "a.b-c.d", "{ a.b-c.d = "+text+"; x = 1 / 0; }")
	}
	for text, place := range map[string]int{"y": 12, "{ a = y; }": 18, "{ a.b = [ ] // y; }": 27} {
		refused(t, at(place, api.ErrName), "main", "{ options = "+text+"; }")
	}
}

func TestM1Marks(t *testing.T) {
	for _, text := range []string{"mkIf true 1", "mkForce 1", "mkDefault { }", "mkMerge [ ]", "mkOrder 1 2", `{ _is = "options"; }`, `{ _is = ""; type = "int"; }`, `{ _is = 1; type = "int"; }`, `{ _is = [ "option" ]; type = "int"; }`, `{ _is = { _is = "option"; }; }`, `{ _is = mkOption; type = 1 / 0; }`, `{ _is = null; }`, `{ _is = "Option"; type = "int"; }`} {
		wrong(t, api.ErrModule, "", text)
		wrong(t, api.ErrModule, "a", "{ a = "+text+"; b = 1 / 0; }")
		wrong(t, api.ErrModule, "a.b", "{ a.b = "+text+"; }")
	}
	// An option has a path; its type is not forced, if it has none.
	wrong(t, api.ErrModule, "", whole)
	wrong(t, api.ErrModule, "", "mkOption { type = 1 / 0; }")
	wrong(t, api.ErrModule, "", `{ _is = "option"; "" = 1; }`)
	refused(t, at(22, api.ErrZero), "main", "{ options = { _is = 1 / 0; }; }")
	refused(t, at(22, api.ErrName), "main", "{ options.a = { _is = y; type = 1 / 0; }; }")
	refused(t, at(14, api.ErrType), "main", "{ options.a = mkOption 5; }")
}

func TestM1Types(t *testing.T) {
	for _, kind := range []string{"bool", "int 0 9", "lines", "enum a b", "list list unit", "attrs float", "string"} {
		declares(t, []modules.Option{{Path: "a", Type: kind, Module: "main"}}, "main", `{ options.a = mkOption { type = "`+kind+`"; }; }`)
	}
	for _, text := range []string{"{ }", "{ default = 1; }", `{ Type = "int"; }`, "{ type = 5; }", "{ type = null; }", "{ type = int: int; }", `{ type = [ "int" ]; }`, `{ type = { }; }`, `{ type = ""; }`, `{ type = "no"; }`, `{ type = "int 5 3"; }`, `{ type = "list"; }`, `{ type = "int "; }`, `{ type = "attrs  int"; default = 1 / 0; }`} {
		wrong(t, api.ErrModule, "a", "{ a = mkOption "+text+"; }")
		wrong(t, api.ErrModule, "users", "{ users = mkOption "+text+"; }")
		wrong(t, api.ErrModule, "x.y", "{ x.y = mkOption "+text+"; z = 1 / 0; }")
	}
	refused(t, at(34, api.ErrName), "main", "{ options.users = mkOption { type=y; }; }")
	refused(t, at(8, api.ErrThrow), "main", `let t = throw "t"; in { options.a = mkOption { type = t; }; }`)
}

func TestM1Declared(t *testing.T) {
	two := func(first, second string) []string {
		return []string{"b", "{ options." + second + " = " + whole + "; }", "main", `{ imports = [ "b" ]; options.` + first + " = " + withOne + "; }"}
	}
	for _, c := range [][2]string{{"a", "a"}, {"a.b", "a.b"}, {"a.b", "a"}, {"a", "a.b"}, {"a.b.c.d", "a.b"}, {"a.b", "a.b.c.d"}, {"a-b", "a-b.c"}, {"a-b.c", "a-b"}} {
		refused(t, api.Trouble{Module: "b", Option: c[1], Err: api.ErrDeclared}, two(c[0], c[1])...)
	}
	for _, c := range [][2]string{{"a", "b"}, {"a", "ab"}, {"ab", "a"}, {"a.b", "a.c"}, {"a.b", "a.bc"}, {"a.bc", "a.b"}, {"a.b", "b.a"}, {"a.b", "b"}, {"a-b", "a"}, {"a", "A"}, {"a.b.c", "a.c.b"}, {"a", "b.a"}, {"a", "a-b.a"}} {
		want := []modules.Option{{Path: c[0], Type: "int", Module: "main", Default: true}, {Path: c[1], Type: "int", Module: "b"}}
		slices.SortFunc(want, func(a, b modules.Option) int { return strings.Compare(a.Path, b.Path) })
		declares(t, want, two(c[0], c[1])...)
	}
	// Sets without options in them declare nothing.
	declares(t, []modules.Option{{Path: "a", Type: "int", Module: "main"}}, "main", `{ imports = [ "b" ]; options.a = `+whole+`; }`, "b", "{ options.a.b = { }; }")
	// It is looked at in the order, whatever the list's.
	refused(t, api.Trouble{Module: "c", Option: "x", Err: api.ErrDeclared}, "c", "{ options.x = "+whole+"; }", "main", `{ imports = [ "b" "c" ]; }`, "b", "{ options.x = "+whole+"; }")
	refused(t, api.Trouble{Module: "b", Option: "x", Err: api.ErrDeclared}, "c", "{ options.x = "+whole+"; }", "main", `{ imports = [ "c" "b" ]; }`, "b", "{ options.x = "+whole+"; }")
}

// nested writes a path of so many names.
func nested(name string, n int) string { return strings.Repeat(name+".", n-1) + name }

func TestM1PathsOfEight(t *testing.T) {
	for n := 1; n <= 8; n++ {
		declares(t, []modules.Option{{Path: nested("a", n), Type: "int", Module: "main"}}, "main", "{ options."+nested("a", n)+" = "+whole+"; }")
		declares(t, nil, "main", "{ options."+nested("a", n)+" = { }; }")
	}
	for _, text := range []string{whole, "{ }", "5", "{ a = 1 / 0; }", "{ _is = 1 / 0; }", "mkOption { type = 1 / 0; }"} {
		wrong(t, api.ErrModule, nested("a", 9), "{ "+nested("a", 9)+" = "+text+"; }")
	}
	wrong(t, api.ErrModule, nested("a", 9), "let s = { a = s; }; in s")
	wrong(t, api.ErrModule, nested("ab", 9), "rec { ab = { inherit ab; }; }")
	wrong(t, api.ErrModule, nested("a", 8)+"..", "{ "+nested("a", 8)+`."." = 1 / 0; }`)
	// It is forced ahead of that.
	refused(t, at(30, api.ErrName), "main", "{ options."+nested("a", 9)+" = y; }")
}

func TestM1OptionsOf64(t *testing.T) {
	many := func(from, n int) string {
		var b strings.Builder
		for i := from; i < from+n; i++ {
			b.WriteString("o" + string(rune('0'+i/10)) + string(rune('0'+i%10)) + " = i; ")
		}
		return "let i = " + whole + "; in { imports = [ \"b\" ]; options = { " + b.String() + "}; }"
	}
	one := func(path, text string) []string {
		return []string{"main", many(0, 60), "b", "{ options." + path + " = " + text + "; }"}
	}
	if a := load(t, list("main", many(0, 60), "b", "{ }"), "main", 10000); a.trouble.Err != api.OK || len(a.options) != 64 {
		t.Errorf("%+v", a)
	}
	if a := load(t, list("main", many(0, 59), "b", "{ options.x = "+whole+"; }"), "main", 10000); a.trouble.Err != api.OK || len(a.options) != 64 {
		t.Errorf("%+v", a)
	}
	refused(t, api.Trouble{Module: "main", Option: "o60", Err: api.ErrMany}, "main", many(0, 61), "b", "{ }")
	refused(t, api.Trouble{Module: "main", Option: "o60", Err: api.ErrMany}, "main", many(0, 80), "b", "{ }")
	refused(t, api.Trouble{Module: "b", Option: "x.y", Err: api.ErrMany}, one("x.y", whole)...)
	refused(t, api.Trouble{Module: "b", Option: "o07", Err: api.ErrDeclared}, one("o07", whole)...)
	refused(t, api.Trouble{Module: "b", Option: "x", Err: api.ErrModule}, one("x", "mkOption { }")...)
	loaded(t, "main b", one("x", "{ }")...)
}
