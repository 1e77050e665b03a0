package modules_test

import (
	"errors"
	"math"
	"slices"
	"strings"
	"testing"

	"bootjack/api"
	"bootjack/modules"
)

// list makes modules of names and texts, by turns.
func list(l ...string) (out []api.Module) {
	for i := 0; i < len(l); i += 2 {
		out = append(out, api.Module{Name: l[i], Text: l[i+1]})
	}
	return out
}

// answer is what Load and the system tell; of no system only steps and trouble.
type answer struct {
	order   []string
	options []modules.Option
	steps   int
	trouble api.Trouble // empty, if there is a system
}

// load holds for every answer that there is a system or an error, and not both.
func load(t *testing.T, l []api.Module, main string, fuel int) answer {
	t.Helper()
	s, n, err := modules.Load(l, main, fuel)
	if (s == nil) != (err != nil) || n < 0 || n > max(fuel, 0) {
		t.Fatalf("%.200v, %s, %d: %v, %d, %v", l, main, fuel, s != nil, n, err)
	}
	if err != nil {
		return answer{steps: n, trouble: troubleOf(t, err)}
	}
	return answer{order: s.Order(), options: s.Options(), steps: n}
}

func troubleOf(t *testing.T, err error) api.Trouble {
	t.Helper()
	trouble, is := err.(*api.Trouble)
	if !is || !errors.Is(err, trouble.Err) || trouble.Err == api.OK {
		t.Fatalf("%#v is no trouble", err)
	}
	return *trouble
}

// alike holds answers against each other.
func alike(a, b answer) bool {
	return slices.Equal(a.order, b.order) && slices.Equal(a.options, b.options) && a.steps == b.steps && a.trouble == b.trouble
}

// system is one that there must be.
func system(t *testing.T, l ...string) *modules.System {
	t.Helper()
	s, _, err := modules.Load(list(l...), "main", api.MaxFuel)
	if err != nil {
		t.Fatalf("%v: %+v", l, troubleOf(t, err))
	}
	return s
}

// refused asks for an error of modules whose main one is main.
func refused(t *testing.T, want api.Trouble, l ...string) {
	t.Helper()
	if a := load(t, list(l...), "main", api.MaxFuel); a.trouble != want {
		t.Errorf("%.200v: %+v; must be %+v", l, a.trouble, want)
	}
}

// loaded asks for an order.
func loaded(t *testing.T, order string, l ...string) {
	t.Helper()
	if a := load(t, list(l...), "main", api.MaxFuel); a.trouble.Err != api.OK || strings.Join(a.order, " ") != order {
		t.Errorf("%.200v: %v, %+v; must be %s", l, a.order, a.trouble, order)
	}
}

// bad is a trouble that modules tell themselves, of the main one.
func bad(e api.Errno) api.Trouble { return api.Trouble{Module: "main", Err: e} }

// at is a trouble that the machine tells, of a node of the main one.
func at(place int, e api.Errno) api.Trouble { return api.Trouble{Module: "main", At: place, Err: e} }

func TestM1Example(t *testing.T) {
	b := `{ imports = [ "c" ]; options.x = mkOption { type = "int"; default = 1; }; }`
	s := system(t, "c", `config: { config.x = 2; }`, "b", b, "main", `{ imports = [ "b" "c" ]; }`)
	if got := s.Order(); !slices.Equal(got, []string{"main", "b", "c"}) {
		t.Errorf("%v", got)
	}
	var paths []string
	for _, o := range s.Options() {
		paths = append(paths, o.Path)
	}
	if !slices.Equal(paths, []string{"asserts", "files", "services", "users", "x"}) {
		t.Errorf("%v", paths)
	}
	refused(t, bad(api.ErrImport), "main", `{ imports = [ "no" ]; }`)
	refused(t, at(20, api.ErrLoop), "main", `config: { imports = config.users; }`)
	for _, text := range []string{`{ options = 1; }`, `{ more = 1; }`, `5`} {
		refused(t, bad(api.ErrModule), "main", text)
	}
	one := `mkOption { type = "int"; }`
	for _, path := range []string{"a", "a.b"} {
		refused(t, api.Trouble{Module: "b", Option: path, Err: api.ErrDeclared}, "main", `{ imports = [ "b" ]; options.a.b = `+one+`; }`, "b", `{ options.`+path+` = `+one+`; }`)
	}
}

func TestM1Fuel(t *testing.T) {
	seventeen := list(slices.Repeat([]string{"", ""}, 17)...)
	for _, fuel := range []int{-1, math.MinInt, api.MaxFuel + 1, math.MaxInt} {
		for _, l := range [][]api.Module{nil, list("main", "{ }"), list("main", "(("), seventeen} {
			if a := load(t, l, "main", fuel); a.trouble != (api.Trouble{Err: api.ErrArg}) || a.steps != 0 {
				t.Errorf("fuel %d: %+v", fuel, a)
			}
		}
	}
	for _, fuel := range []int{1, 2, api.MaxFuel} {
		if a := load(t, list("main", "{ }"), "main", fuel); a.trouble.Err != api.OK || a.steps != 1 {
			t.Errorf("fuel %d: %+v", fuel, a)
		}
	}
	if a := load(t, list("main", " { }"), "main", 0); a.trouble != at(1, api.ErrFuel) || a.steps != 0 {
		t.Errorf("fuel 0: %+v", a)
	}
}

func TestM1Many(t *testing.T) {
	var l []string
	for i := range api.MaxModules {
		l = append(l, string(rune('a'+i)), "{ }")
	}
	l[6] = "main"
	loaded(t, "main", l...)
	refused(t, api.Trouble{Err: api.ErrMany}, append(l, "z", "{ }")...)
	refused(t, api.Trouble{Err: api.ErrMany}, append(l, "main", "{ }")...)
	refused(t, api.Trouble{Err: api.ErrMany}, append([]string{"", "{ }"}, l...)...)
	refused(t, api.Trouble{Err: api.ErrMany}, slices.Repeat(l, 1000)...)
}

func TestM1Names(t *testing.T) {
	for c := range 256 {
		name := "a" + string([]byte{byte(c)})
		a := load(t, list("main", "{ }", name, "(("), "main", 1)
		if c >= 33 && c <= 126 {
			if a.trouble.Err != api.OK {
				t.Errorf("%q: %+v", name, a.trouble)
			}
			continue
		}
		if a.trouble != (api.Trouble{Module: name, Err: api.ErrArg}) || a.steps != 0 {
			t.Errorf("%q: %+v", name, a)
		}
	}
	longest := strings.Repeat("x", 32)
	for _, name := range []string{"a", "!", "~", "\"", "a.b", "/", longest} {
		if a := load(t, list(name, "{ }"), name, 1); a.trouble.Err != api.OK || !slices.Equal(a.order, []string{name}) {
			t.Errorf("%s: %+v", name, a)
		}
	}
	for _, name := range []string{"", longest + "x", strings.Repeat("x", 1<<20), " ", "a b", "a\n", "\x00", "\xc3\xa4", "a\x7f"} {
		refused(t, api.Trouble{Module: name, Err: api.ErrArg}, "main", "{ }", name, "{ }")
	}
}

// The first module that is wrong is told, whatever is wrong with it, and ahead
// of what any text says.
func TestM1FirstWrongName(t *testing.T) {
	refused(t, api.Trouble{Module: "a", Err: api.ErrArg}, "main", "((", "a", "", "a", "", "", "")
	refused(t, api.Trouble{Module: "", Err: api.ErrArg}, "main", "((", "a", "", "", "", "a", "")
	refused(t, api.Trouble{Module: "a b", Err: api.ErrArg}, "a", "", "a b", "", "a b", "", "a", "")
	refused(t, bad(api.ErrArg), "main", "{ }", "main", "{ }")
	refused(t, bad(api.ErrArg), "main", "{ }", "b", "{ }", "main", "((")
	refused(t, api.Trouble{Module: "b", Err: api.ErrArg}, "b", "{ }", "b", "{ }")
}

func TestM1NoMain(t *testing.T) {
	for _, main := range []string{"", "main", "a b", "Other", "other ", strings.Repeat("x", 100), "\xff"} {
		for _, l := range [][]api.Module{nil, {}, list("other", "{ }"), list("other", "((")} {
			if a := load(t, l, main, 100); a.trouble != (api.Trouble{Module: main, Err: api.ErrImport}) || a.steps != 0 {
				t.Errorf("%q: %+v", main, a)
			}
		}
	}
}

func TestM1Order(t *testing.T) {
	loaded(t, "main", "main", `{ }`)
	loaded(t, "main", "main", `{ imports = [ ]; }`, "b", `{ }`)
	loaded(t, "main", "main", `{ imports = [ "main" "main" ]; }`)
	loaded(t, "main b c", "main", `{ imports = [ "b" "c" "b" ]; }`, "b", `{ }`, "c", `{ imports = [ "b" "main" ]; }`)
	loaded(t, "main c b", "main", `{ imports = [ "c" "b" ]; }`, "b", `{ imports = [ "c" ]; }`, "c", `{ }`)
	// Each stands ahead of those that it asks for, and these ahead of what others ask for behind it.
	loaded(t, "main b d c e", "main", `{ imports = [ "b" "c" ]; }`, "b", `{ imports = [ "d" ]; }`, "c", `{ imports = [ "e" ]; }`, "d", `{ }`, "e", `{ }`)
	loaded(t, "main b d c", "main", `{ imports = [ "b" "c" "d" ]; }`, "b", `{ imports = [ "d" "c" ]; }`, "c", `{ imports = [ "main" ]; }`, "d", `{ imports = [ "b" ]; }`)
	// Names are what is asked for, however they are told.
	loaded(t, "main b c", "main", `let l = [ "b" ]; in { imports = l ++ map (x: x) [ ("" + "c") ]; }`, "b", `config: { }`, "c", `let x = { config.users = config; }; in y: x // { }`)
	loaded(t, "main a.b", "main", `{ imports = [ "a.b" ]; }`, "a.b", `{ }`)
	var chain []string
	for i := range 15 {
		chain = append(chain, string(rune('a'+i)), `{ imports = [ "`+string(rune('a'+i+1))+`" ]; }`)
	}
	loaded(t, "main a b c d e f g h i j k l m n o", append(slices.Replace(chain, 29, 30, `{ imports = [ "a" ]; }`), "main", `{ imports = [ "a" ]; }`)...)
}

func TestM1NotVisited(t *testing.T) {
	for _, text := range []string{"((", "", "1 / 0", "5", `{ imports = [ "no" ]; }`, `{ options = 1; }`, strings.Repeat("x", 5000)} {
		a := load(t, list("b", text, "main", "{ }", "c", text), "main", 1)
		if a.trouble.Err != api.OK || a.steps != 1 || !slices.Equal(a.order, []string{"main"}) {
			t.Errorf("%.20s: %+v", text, a)
		}
	}
}

func TestM1Parse(t *testing.T) {
	for text, want := range map[string]api.Trouble{
		"":                              at(0, api.ErrShort),
		"{ a":                           at(3, api.ErrShort),
		"  @":                           at(2, api.ErrByte),
		" 007":                          at(1, api.ErrNumber),
		"{ } { } }":                     at(8, api.ErrWord),
		"{ a = 1; a = 2; }":             at(9, api.ErrTwice),
		" \"a":                          at(1, api.ErrString),
		strings.Repeat(" ", 4097):       at(4096, api.ErrSource),
		strings.Repeat("(", 40):         at(32, api.ErrDeep),
		strings.Repeat("1+", 600):       at(1200, api.ErrShort),
		strings.Repeat("1+", 600) + "1": at(0, api.ErrNodes),
	} {
		if a := load(t, list("main", text), "main", 1000); a.trouble != want || a.steps != 0 {
			t.Errorf("%.20q: %+v; must be %+v", text, a, want)
		}
		want.Module = "b"
		if a := load(t, list("b", text, "main", `{ imports = [ "c" "b" ]; options = 1; }`, "c", "{ }"), "main", 1000); a.trouble != want || a.steps != 5 {
			t.Errorf("%.20q: %+v; must be %+v", text, a, want)
		}
	}
}

func TestM1Values(t *testing.T) {
	for _, text := range []string{"5", "null", "true", `"a"`, "1.5", "[ ]", "[ { } ]", "x: 5", "x: x: { }", "x: y: x", "mkIf", "mkOverride 1 2", "mkForce", "mkMerge", "seq", "{ more = 1; }", `{ "" = 1; }`, "{ import = 1; }", "{ Config = 1; }", "{ config = 1; configs = 1; }", "{ imports = 1 / 0; more = 1; }", "{ options = 1; more = 1; }", "config: { more = config; }", "mkOption { }", `{ config = 1; imports = [ "b" ]; options = 1; zoo = 1; }`, "{ _is = 1; }"} {
		refused(t, bad(api.ErrModule), "main", text, "b", "{ }")
		refused(t, api.Trouble{Module: "b", Err: api.ErrModule}, "main", `{ imports = [ "b" ]; }`, "b", text)
	}
	for text, want := range map[string]api.Trouble{
		"1 / 0":                        at(2, api.ErrZero),
		"y":                            at(0, api.ErrName),
		"{ }.a":                        at(3, api.ErrAttr),
		" assert false; { }":           at(1, api.ErrAssert),
		" throw \"a\"":                 at(1, api.ErrThrow),
		" let x = x; in x":             at(9, api.ErrLoop),
		" c: 1 / 0":                    at(6, api.ErrZero),
		" c: (x: x.y) { }":             at(9, api.ErrAttr),
		"let f = x: f x; in f 1":       at(11, api.ErrDeep),
		"c: let f = x: f x; in f 1":    at(14, api.ErrDeep),
		"if 1 then { } else { }":       at(0, api.ErrType),
		"{ imports = [ ]; } // 5":      at(19, api.ErrType),
		"{ imports = y; }":             at(12, api.ErrName),
		"{ imports = [ 1 ] ++ 5; }":    at(18, api.ErrType),
		"{ imports = [ \"b\" y ]; }":   at(18, api.ErrName),
		"{ imports = [ (1 / 0) 1 ]; }": at(17, api.ErrZero),
	} {
		refused(t, want, "main", text, "b", "((")
	}
}

// What the config is, is not known while modules are read; who does not need it
// does not force it.
func TestM1Config(t *testing.T) {
	for text, place := range map[string]int{
		"config: config":                               8,
		"c: c":                                         3,
		"c: c.main":                                    3,
		"c: { imports = c; }":                          15,
		"c: { imports = [ c ]; }":                      17,
		"c: with c; { imports = a; }":                  8,
		"c: { imports = [ ] ++ c.users; }":             22,
		"c: if c ? a then { } else { }":                6,
		"c: { options = c; }":                          15,
		"c: { options.a = c.a or 1; }":                 17,
		"c: { options.a = mkOption c; }":               26,
		"c: { options.a = mkOption { type = c.t; }; }": 35,
		"c: { options.a._is = c; }":                    21,
		"let f = g: g.x; in c: { options = f c; }":     36,
		"let f = g: g; in f (g: { imports = g.x; })":   35,
	} {
		refused(t, at(place, api.ErrLoop), "main", text)
		want := api.Trouble{Module: "b", At: place, Err: api.ErrLoop}
		refused(t, want, "main", `c: { imports = [ "b" ]; }`, "b", text)
	}
	// A built-in is no node of a module.
	for _, text := range []string{"mkOption", "head", "throw", "seq 1", "names", "typeOf", "map (x: x)", "mkIf true mkOption"} {
		want := api.Trouble{Err: api.ErrLoop}
		if text == "mkIf true mkOption" {
			want = bad(api.ErrModule)
		}
		refused(t, want, "main", text)
	}
	for _, text := range []string{"c: { config = c; }", "c: { config.users = c.users; }", "c: { options.a = mkOption { type = \"int\"; default = c.a; }; }", "c: let d = c; in { config = d; imports = [ ]; }", "c: (x: { config = x.y; }) c.z", "seq 1 (c: { config = [ c ]; })", "c: { options.a = mkOption { type = \"int\"; more = c; }; }"} {
		loaded(t, "main", "main", text)
	}
}

func TestM1Imports(t *testing.T) {
	for _, text := range []string{"1", "\"b\"", "{ }", "null", "x: x", "[ 1 ]", "[ null ]", "[ [ ] ]", "[ [ \"b\" ] ]", "[ { } ]", "[ (x: x) ]", "[ \"b\" 1 ]", "[ \"no\" 1 ]", "[ 1 (1 / 0) ]", "[ 1 \"b\" ]"} {
		refused(t, bad(api.ErrModule), "main", "{ imports = "+text+"; }", "b", "((")
	}
	for _, text := range []string{`[ "no" ]`, `[ "" ]`, `[ "b" "no" ]`, `[ "no" "broken" ]`, `[ "B" ]`, `[ "b " ]`, `[ "main" "b" "c" ]`, `[ "other" "no" ]`} {
		refused(t, bad(api.ErrImport), "main", "{ imports = "+text+"; options = 1; }", "b", "{ }", "broken", "((", "other", "{ }")
	}
	// Who asks for it first is told.
	refused(t, api.Trouble{Module: "c", Err: api.ErrImport}, "main", `{ imports = [ "b" "no" ]; }`, "b", `{ imports = [ "c" "no" ]; }`, "c", `{ imports = [ "b" "main" "no" ]; }`)
	refused(t, api.Trouble{Module: "b", Err: api.ErrImport}, "main", `{ imports = [ "b" "broken" ]; }`, "b", `{ imports = [ "no" ]; }`, "broken", "((")
	// All imports are told ahead of the first visit, and all modules are visited ahead of options.
	refused(t, at(26, api.ErrZero), "main", `{ imports = [ "broken" (1 / 0) ]; }`, "broken", "((")
	refused(t, api.Trouble{Module: "b", At: 2, Err: api.ErrShort}, "main", `{ imports = [ "b" ]; options = 1 / 0; }`, "b", "((")
	refused(t, at(33, api.ErrZero), "main", `{ imports = [ "b" ]; options = 1 / 0; }`, "b", "{ options = 1; }")
}
