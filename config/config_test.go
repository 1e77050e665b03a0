package config_test

import (
	"errors"
	"fmt"
	"math"
	"slices"
	"strings"
	"testing"

	"bootjack/api"
	"bootjack/config"
	"bootjack/modules"
	"bootjack/value"
)

// list makes modules of names and texts, by turns.
func list(l ...string) (out []api.Module) {
	for i := 0; i < len(l); i += 2 {
		out = append(out, api.Module{Name: l[i], Text: l[i+1]})
	}
	return out
}

// answer is what Evaluate tells; of an error only steps and trouble.
type answer struct {
	meaning string // as written tells it
	steps   int
	trouble api.Trouble // empty, if there is a meaning
}

// evaluate holds for every answer that there is a meaning or an error, and not
// both.
func evaluate(t *testing.T, l []api.Module, main string, fuel int) answer {
	t.Helper()
	c, n, err := config.Evaluate(l, main, fuel)
	if n < 0 || n > max(fuel, 0) {
		t.Fatalf("%.200v, %s, %d: %d steps", l, main, fuel, n)
	}
	if err != nil {
		if len(c.Settings)+len(c.Files)+len(c.Users)+len(c.Units) > 0 {
			t.Fatalf("%.200v: %+v beside %v", l, c, err)
		}
		return answer{steps: n, trouble: troubleOf(t, err)}
	}
	checkMeaning(t, c)
	return answer{meaning: written(c), steps: n}
}

func troubleOf(t *testing.T, err error) api.Trouble {
	t.Helper()
	trouble, is := err.(*api.Trouble)
	if !is || !errors.Is(err, trouble.Err) || trouble.Err == api.OK {
		t.Fatalf("%#v is no trouble", err)
	}
	return *trouble
}

// checkMeaning holds to what is so of every meaning.
func checkMeaning(t *testing.T, c api.Config) {
	t.Helper()
	var paths, files []string
	for _, s := range c.Settings {
		paths = append(paths, s.Path)
		if !value.Right(s.Value) {
			t.Fatalf("%s is not right", s.Path)
		}
	}
	for _, f := range c.Files {
		files = append(files, f.Name)
	}
	for _, l := range [][]string{paths, files, c.Users} {
		if !slices.IsSorted(l) || len(slices.Compact(slices.Clone(l))) != len(l) {
			t.Fatalf("%v do not rise", l)
		}
	}
	for _, path := range []string{"asserts", "files", "services", "users"} {
		if !slices.Contains(paths, path) {
			t.Fatalf("%v without %s", paths, path)
		}
	}
}

// written tells all of a meaning, item by item.
func written(c api.Config) string {
	var l []string
	for _, s := range c.Settings {
		l = append(l, s.Path+" = "+value.Show(s.Value))
	}
	for _, f := range c.Files {
		l = append(l, fmt.Sprintf("file %s %q", f.Name, f.Text))
	}
	for _, u := range c.Users {
		l = append(l, "user "+u)
	}
	for _, u := range c.Units {
		l = append(l, fmt.Sprintf("unit %s %q %q %q", u.Name, u.Start, u.Requires, u.After))
	}
	return strings.Join(l, "\n")
}

// means asks for a meaning: of the four settings that are there always, those
// that are empty are left out.
func means(t *testing.T, want string, l ...string) {
	t.Helper()
	a := evaluate(t, list(l...), "main", api.MaxFuel)
	if a.trouble.Err != api.OK {
		t.Errorf("%.300v: %+v", l, a.trouble)
		return
	}
	var told []string
	for _, line := range strings.Split(a.meaning, "\n") {
		if !slices.Contains([]string{"asserts = { }", "files = { }", "services = { }", "users = [ ]"}, line) {
			told = append(told, line)
		}
	}
	if got := strings.Join(told, "; "); got != want {
		t.Errorf("%.300v: %s; must be %s", l, got, want)
	}
}

// refused asks for an error of modules whose main one is main.
func refused(t *testing.T, want api.Trouble, l ...string) {
	t.Helper()
	if a := evaluate(t, list(l...), "main", api.MaxFuel); a.trouble != want {
		t.Errorf("%.300v: %+v; must be %+v", l, a.trouble, want)
	}
}

// of is a trouble of an option and of no module.
func of(option string, e api.Errno) api.Trouble { return api.Trouble{Option: option, Err: e} }

// at is a trouble that the machine tells, of a node of the main module.
func at(place int, e api.Errno) api.Trouble { return api.Trouble{Module: "main", At: place, Err: e} }

// nowhere is a trouble that the machine tells, where no node is under way.
func nowhere(e api.Errno) api.Trouble { return api.Trouble{Err: e} }

// option writes a declaration.
func option(path, kind string) string {
	return `options.` + path + ` = mkOption { type = "` + kind + `"; };`
}

// preset writes one with a default.
func preset(path, kind, text string) string {
	return `options.` + path + ` = mkOption { type = "` + kind + `"; default = ` + text + `; };`
}

func TestG1Examples(t *testing.T) {
	a := evaluate(t, list("main", `config: { imports = [ "web" ]; config.users = mkIf config.on [ "www" ]; }`, "web", `{ options.on = mkOption { type = "bool"; default = true; }; config.files."etc/web" = "x"; }`), "main", 10000)
	want := []string{`asserts = { }`, `files = { "etc/web"="x"; }`, `on = true`, `services = { }`, `users = [ "www" ]`, `file etc/web "x"`, `user www`}
	if a.trouble.Err != api.OK || a.meaning != strings.Join(want, "\n") {
		t.Errorf("%+v", a)
	}
	refused(t, at(31, api.ErrLoop), "main", `config: { config.users = config.users; }`)
	refused(t, api.Trouble{Module: "main", Option: "a", Err: api.ErrOption}, "main", `{ config.a = 1; }`)
	refused(t, of("asserts.x", api.ErrAssert), "main", `{ config.asserts.x = false; }`)
	a = evaluate(t, list("main", `{ config.services = { net = { }; web = { requires = [ "net" ]; start = "w"; }; }; }`), "main", 10000)
	if !strings.HasSuffix(a.meaning, `unit net "" [] []`+"\n"+`unit web "w" ["net"] []`) {
		t.Errorf("%+v", a)
	}
}

func TestG1NothingSaid(t *testing.T) {
	for _, text := range []string{"{ }", "c: { }", "{ config = { }; }", "c: { config = { }; options = { }; imports = [ ]; }", "{ config = mkMerge [ ]; }", "{ config = mkIf false 5; }"} {
		c, _, err := config.Evaluate(list("main", text), "main", 1000)
		if err != nil || len(c.Settings) != 4 || len(c.Files)+len(c.Users)+len(c.Units) != 0 {
			t.Errorf("%s: %+v, %v", text, c, err)
		}
		means(t, "", "main", text)
	}
}

// What Load refuses is told as Load tells it, with its steps, ahead of all else.
func TestG1Load(t *testing.T) {
	seventeen := slices.Repeat([]string{"", ""}, 17)
	for _, l := range [][]string{
		nil, seventeen, {"", "{ }"}, {"main", "{ }", "main", "{ }"}, {"other", "{ }"},
		{"main", "(("}, {"main", ""}, {"main", "5"}, {"main", "{ more = 1; }"}, {"main", "  @"}, {"main", "1 / 0"},
		{"main", `{ imports = [ "no" ]; config = 1; }`}, {"main", `{ imports = 1; }`}, {"main", `{ imports = [ "b" ]; config = 5; }`, "b", "(("},
		{"main", `{ options = 1; config = 1 / 0; }`}, {"main", `{ options.users = mkOption { type = "int"; }; config = 1 / 0; }`},
		{"main", `{ options."a b" = mkOption { type = "int"; }; }`}, {"main", `{ options.a = mkOption { type = "no"; default = 1 / 0; }; }`},
		{"main", "config: config"}, {"main", "config: { imports = config.users; }"}, {"main", "config: { options = config; }"},
	} {
		_, n, err := modules.Load(list(l...), "main", 1000)
		if err == nil {
			t.Fatalf("%v is no error", l)
		}
		if a := evaluate(t, list(l...), "main", 1000); a.trouble != troubleOf(t, err) || a.steps != n {
			t.Errorf("%v: %+v; must be %+v, %d", l, a, troubleOf(t, err), n)
		}
	}
	for _, fuel := range []int{-1, math.MinInt, api.MaxFuel + 1, math.MaxInt} {
		if a := evaluate(t, list("main", "{ }"), "main", fuel); a.trouble != nowhere(api.ErrArg) || a.steps != 0 {
			t.Errorf("fuel %d: %+v", fuel, a)
		}
	}
	for _, main := range []string{"", "no", "Main", "\xff"} {
		if a := evaluate(t, list("main", "{ }"), main, 100); a.trouble != (api.Trouble{Module: main, Err: api.ErrImport}) {
			t.Errorf("%q: %+v", main, a)
		}
	}
}

// Each of the numbered parts goes ahead of those behind it: the error of the
// first is told, and with that one mended the error of the next.
func TestG1FirstOfSeveral(t *testing.T) {
	parts := []struct {
		text string
		want api.Trouble
	}{
		{`options.q = 1;`, api.Trouble{Module: "main", Option: "q", Err: api.ErrModule}},
		{option("z", "int"), of("z", api.ErrUnset)},
		{`config.a = 1;`, api.Trouble{Module: "main", Option: "a", Err: api.ErrOption}},
		{`config.asserts.x = false;`, of("asserts.x", api.ErrAssert)},
		{`config.files.A = "";`, of("files.A", api.ErrPath)},
		{`config.users = [ "A" ];`, of("users", api.ErrPath)},
		{`config.services.A = { };`, of("services.A", api.ErrPath)},
	}
	for i, p := range parts {
		text := ""
		for _, q := range parts[i:] {
			text += q.text + " "
		}
		refused(t, p.want, "main", "{ "+text+"}")
	}
}

// How modules stand in the list does not matter; those that nobody asks for do
// not either.
func TestG1AnyList(t *testing.T) {
	l := list("main", `{ imports = [ "b" "c" ]; config.files.f = "main"; }`, "b", `{ imports = [ "d" ]; config.files.f = "b"; }`, "c", `{ config.files.f = "c"; }`, "d", `{ config.files.f = "d"; }`, "e", "((")
	want := evaluate(t, l, "main", 1000)
	if want.trouble.Err != api.OK || !strings.HasSuffix(want.meaning, `file f "main\nb\nd\nc"`) {
		t.Fatalf("%+v", want)
	}
	for i := range l {
		for k := range l {
			other := slices.Clone(l)
			other[i], other[k] = other[k], other[i]
			if got := evaluate(t, other, "main", 1000); got != want {
				t.Errorf("%+v; must be %+v", got, want)
			}
		}
	}
	for range 20 {
		if got := evaluate(t, l, "main", 1000); got != want {
			t.Errorf("told anew: %+v; must be %+v", got, want)
		}
	}
}
