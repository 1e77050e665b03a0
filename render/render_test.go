package render_test

import (
	"math"
	"slices"
	"strconv"
	"strings"
	"testing"

	"bootjack/api"
	"bootjack/config"
	"bootjack/render"
)

func whole(n int64) api.Value           { return api.Value{Kind: api.VInt, Int: n} }
func text(s string) api.Value           { return api.Value{Kind: api.VString, Text: s} }
func list(items ...api.Value) api.Value { return api.Value{Kind: api.VList, Items: items} }
func file(name, text string) api.Pair   { return api.Pair{Name: name, Text: text} }
func unit(name, start string) api.Unit  { return api.Unit{Name: name, Start: start} }
func set(path string, v api.Value) api.Config {
	return api.Config{Settings: []api.Setting{{Path: path, Value: v}}}
}

// example is what the chapter's example is of.
func example() api.Config {
	return api.Config{Files: []api.Pair{file("etc/a", "x")}, Users: []string{"www"}, Units: []api.Unit{unit("net", "")}}
}

// sameSystem takes a list without elements as any other such list.
func sameSystem(a, b api.System) bool {
	return slices.EqualFunc(a.Files, b.Files, func(a, b api.Entry) bool {
		return a.Path == b.Path && a.Kind == b.Kind && string(a.Data) == string(b.Data)
	}) && slices.Equal(a.Users, b.Users) && slices.EqualFunc(a.Units, b.Units, func(a, b api.Unit) bool {
		return a.Name == b.Name && a.Start == b.Start && slices.Equal(a.Requires, b.Requires) && slices.Equal(a.After, b.After)
	})
}

func checkSystem(t *testing.T, c api.Config, want api.System) {
	t.Helper()
	if got := render.System(c); !sameSystem(got, want) {
		t.Errorf("System of %.500v: %.500v; must be %.500v", c, got, want)
	}
}

func checkManifest(t *testing.T, c api.Config, want string) {
	t.Helper()
	if got := render.Manifest(c); got != want {
		t.Errorf("Manifest of %.500v: %.500q; must be %.500q", c, got, want)
	}
}

func TestExamples(t *testing.T) {
	c := example()
	checkSystem(t, c, api.System{
		Files: []api.Entry{{Path: "etc/a", Kind: api.KindFile, Data: []byte("x\n")}},
		Users: []string{"www"},
		Units: []api.Unit{unit("net", "net")},
	})
	checkManifest(t, c, "file etc/a\nuser www\nunit net\n")
}

func TestOfNothing(t *testing.T) {
	empty := api.Config{Settings: []api.Setting{}, Files: []api.Pair{}, Users: []string{}, Units: []api.Unit{}}
	for _, c := range []api.Config{{}, empty, set("a", whole(1))} {
		checkSystem(t, c, api.System{})
	}
	checkManifest(t, api.Config{}, "")
	checkManifest(t, empty, "")
}

// A line feed stands behind every text but the empty one, whatever its bytes
// are, and however many.
func TestY1Files(t *testing.T) {
	long := strings.Repeat("x", 5*api.MaxData)
	for text, data := range map[string]string{
		"": "", "x": "x\n", "x\ny": "x\ny\n", "x\n": "x\n\n", "\n": "\n\n", "\n\n": "\n\n\n", " ": " \n", "\r": "\r\n",
		"\x00": "\x00\n", "\xff\xfe": "\xff\xfe\n", "\xc3\xa4": "\xc3\xa4\n", long: long + "\n",
	} {
		checkSystem(t, api.Config{Files: []api.Pair{file("f", text)}}, api.System{Files: []api.Entry{{Path: "f", Kind: api.KindFile, Data: []byte(data)}}})
	}
}

// Files stand as they stood, also those that no configuration has.
func TestY1FilesInOrder(t *testing.T) {
	var c api.Config
	var want api.System
	for i, name := range []string{"b", "a", "a/b", "a", "", "/", "..", "no name", "\xff", "etc/", strings.Repeat("n", 300)} {
		c.Files = append(c.Files, file(name, strconv.Itoa(i)))
		want.Files = append(want.Files, api.Entry{Path: name, Kind: api.KindFile, Data: []byte(strconv.Itoa(i) + "\n")})
	}
	checkSystem(t, c, want)
	for i := range 10 * api.MaxFiles {
		c.Files = append(c.Files, file(strconv.Itoa(i), ""))
		want.Files = append(want.Files, api.Entry{Path: strconv.Itoa(i), Kind: api.KindFile})
	}
	checkSystem(t, c, want)
}

func TestY1Users(t *testing.T) {
	many := slices.Repeat([]string{"z", "a"}, api.MaxUsers)
	for _, users := range [][]string{{"a", "b"}, {"b", "a"}, {"a", "a"}, {""}, {"\n", "\xff", "no name"}, many} {
		checkSystem(t, api.Config{Users: users}, api.System{Users: users})
	}
}

func TestY1Units(t *testing.T) {
	for start, want := range map[string]string{"": "u", "w": "w", " ": " ", "u": "u", "v": "v", "a b": "a b", "\n": "\n", "\xff": "\xff"} {
		checkSystem(t, api.Config{Units: []api.Unit{unit("u", start)}}, api.System{Units: []api.Unit{unit("u", want)}})
	}
	checkSystem(t, api.Config{Units: []api.Unit{{}}}, api.System{Units: []api.Unit{{}}})
	// What a unit requires and stands after is told as it is, in its order.
	full := api.Unit{Name: "w", Requires: []string{"n", "a", "n"}, After: []string{"", "q", "n"}}
	want := full
	want.Start = "w"
	checkSystem(t, api.Config{Units: []api.Unit{full}}, api.System{Units: []api.Unit{want}})
}

// Units stand as they stood: those that wait for one another, and of one name.
func TestY1UnitsInOrder(t *testing.T) {
	var c api.Config
	var want api.System
	for i := range 3 * api.MaxUnits {
		u := api.Unit{Name: strconv.Itoa(i * 7 % 10), Requires: []string{strconv.Itoa(i)}, After: []string{"x", strconv.Itoa(i + 1)}}
		v := u
		v.Start = u.Name
		if i%3 == 0 {
			u.Start, v.Start = "s", "s"
		}
		c.Units, want.Units = append(c.Units, u), append(want.Units, v)
	}
	checkSystem(t, c, want)
}

func TestY2Values(t *testing.T) {
	for shown, v := range map[string]api.Value{
		"null": {}, "true": {Kind: api.VBool, Int: 1}, "false": {Kind: api.VBool}, "-5": whole(-5), "9223372036854775807": whole(math.MaxInt64),
		"1.0": {Kind: api.VFloat, Float: 1}, "-0.0": {Kind: api.VFloat, Float: math.Copysign(0, -1)}, "nan": {Kind: api.VFloat, Float: math.NaN()},
		`""`: text(""), `"x"`: text("x"), `" "`: text(" "), `"\n\t\"\\"`: text("\n\t\"\\"), "\"\xff\r\"": text("\xff\r"),
		"[ ]": list(), "[ 1 [ \"x\" ] ]": list(whole(1), list(text("x"))), "{ }": {Kind: api.VSet},
		`{ "a b"=1; "c"=[ ]; }`: {Kind: api.VSet, Names: []string{"a b", "c"}, Items: []api.Value{whole(1), list()}},
		"function":              {Kind: api.VFunc}, "[ function ]": list(api.Value{Kind: api.VFunc}),
	} {
		checkManifest(t, set("a.b", v), "a.b = "+shown+"\n")
	}
}

// deep is so many lists within one another.
func deep(n int) api.Value {
	v := list()
	for range n - 1 {
		v = list(v)
	}
	return v
}

// Of a value that is not right value.Show is the empty text; the line stays.
func TestY2WrongValues(t *testing.T) {
	for _, v := range []api.Value{
		{Kind: -1}, {Kind: 8}, {Int: 1}, {Kind: api.VBool, Int: 2}, {Kind: api.VInt, Text: "x"}, text(strings.Repeat("x", api.MaxString+1)),
		list(api.Value{Kind: 9}), {Kind: api.VSet, Names: []string{"b", "a"}, Items: []api.Value{{}, {}}}, {Kind: api.VSet, Names: []string{"a"}},
		list(make([]api.Value, api.MaxList+1)...), deep(api.MaxDeep + 1), deep(50000),
	} {
		checkManifest(t, set("a", v), "a = \n")
	}
	checkManifest(t, set("a", deep(api.MaxDeep)), "a = "+strings.Repeat("[ ", api.MaxDeep)+"]"+strings.Repeat(" ]", api.MaxDeep-1)+"\n")
	c := set("a", api.Value{Kind: 8})
	c.Settings = append(c.Settings, api.Setting{Path: "b", Value: whole(1)})
	checkManifest(t, c, "a = \nb = 1\n")
}

// Paths and names are written as they are, and what stands there stays in order.
func TestY2Lines(t *testing.T) {
	checkManifest(t, set("", whole(1)), " = 1\n")
	checkManifest(t, set("a \n=\"\xff", whole(1)), "a \n=\"\xff = 1\n")
	checkManifest(t, api.Config{Files: []api.Pair{{}}, Users: []string{""}, Units: []api.Unit{{}}}, "file \nuser \nunit \n")
	checkManifest(t, api.Config{Files: []api.Pair{file("a \"b\\", "no\n"), file("\n", "")}, Users: []string{"u v", "\xff"}, Units: []api.Unit{unit("\"", "no"), unit("\t", "")}},
		"file a \"b\\\nfile \n\nuser u v\nuser \xff\nunit \"\nunit \t\n")
	c := api.Config{
		Settings: []api.Setting{{Path: "b", Value: whole(2)}, {Path: "a", Value: text("x\ny")}, {Path: "b", Value: whole(1)}},
		Files:    []api.Pair{file("q", "1"), file("p", ""), file("q", "2")},
		Users:    []string{"v", "u", "v"},
		Units:    []api.Unit{{Name: "m", Start: "s", Requires: []string{"n"}, After: []string{"o"}}, unit("l", ""), unit("m", "")},
	}
	checkManifest(t, c, "b = 2\na = \"x\\ny\"\nb = 1\nfile q\nfile p\nfile q\nuser v\nuser u\nuser v\nunit m\nunit l\nunit m\n")
}

// meaning is what modules of names and texts, by turns, say by config.
func meaning(t *testing.T, l ...string) api.Config {
	t.Helper()
	var modules []api.Module
	for i := 0; i < len(l); i += 2 {
		modules = append(modules, api.Module{Name: l[i], Text: l[i+1]})
	}
	c, _, err := config.Evaluate(modules, "main", api.MaxFuel)
	if err != nil {
		t.Fatalf("%q: %v", l, err)
	}
	return c
}

// Example 8 of the whole.
func TestY2OfMeaning(t *testing.T) {
	c := meaning(t, "main", `config: { imports = [ "web" ]; config.users = mkIf config.on [ "www" ]; }`,
		"web", `{ options.on = mkOption { type = "bool"; default = true; }; config.files."etc/web" = "x"; }`)
	checkManifest(t, c, strings.Join([]string{`asserts = { }`, `files = { "etc/web"="x"; }`, `on = true`, `services = { }`, `users = [ "www" ]`, `file etc/web`, `user www`, ``}, "\n"))
	checkSystem(t, c, api.System{Files: []api.Entry{{Path: "etc/web", Kind: api.KindFile, Data: []byte("x\n")}}, Users: []string{"www"}})
}

// What follows: of the same settings there are the same system and manifest,
// however the modules say them.
func TestSameSettings(t *testing.T) {
	plain := meaning(t, "main", `{ config.users = [ "b" "a" ]; config.files = { x = "1"; y = ""; }; config.services = { a = { requires = [ "z" ]; }; z = { start = "s"; }; }; }`)
	split := func(files string) api.Config {
		return meaning(t, "z", `{ config = mkMerge [ { files.y = ""; } { services.a = { requires = [ "z" ]; }; } ]; }`,
			"main", `config: { imports = [ "y" "z" ]; config.services.z.start = "s"; config.users = mkIf (config.files.x == "1") [ "b" ]; }`,
			"y", `{ config.users = mkOrder 2000 [ "a" ]; config.files = `+files+`; }`)
	}
	want := "asserts = { }\nfiles = { \"x\"=\"1\"; \"y\"=\"\"; }\nservices = { \"a\"={ \"after\"=[ ]; \"requires\"=[ \"z\" ]; \"start\"=\"\"; }; \"z\"={ \"after\"=[ ]; \"requires\"=[ ]; \"start\"=\"s\"; }; }\nusers = [ \"b\" \"a\" ]\nfile x\nfile y\nuser a\nuser b\nunit z\nunit a\n"
	system := api.System{
		Files: []api.Entry{{Path: "x", Kind: api.KindFile, Data: []byte("1\n")}, {Path: "y", Kind: api.KindFile}},
		Users: []string{"a", "b"},
		Units: []api.Unit{unit("z", "s"), {Name: "a", Start: "a", Requires: []string{"z"}}},
	}
	for _, c := range []api.Config{plain, split(`{ x = "1"; }`)} {
		checkManifest(t, c, want)
		checkSystem(t, c, system)
	}
	other := split(`mkForce { x = "1"; }`)
	if render.Manifest(other) == want || sameSystem(render.System(other), system) {
		t.Errorf("other settings: %+v", other)
	}
}
