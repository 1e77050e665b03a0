package modules_test

import (
	"slices"
	"testing"

	"bootjack/api"
	"bootjack/eval"
	"bootjack/modules"
	"bootjack/value"
)

func number(n int64) api.Value { return api.Value{Kind: api.VInt, Int: n} }

// shows asks for the whole value of a thunk.
func shows(t *testing.T, s *modules.System, x *eval.Thunk, want string) {
	t.Helper()
	if v, err := s.Machine().Deep(x); err != nil || value.Show(v) != want {
		t.Errorf("%s, %v; must be %s", value.Show(v), err, want)
	}
}

// fails asks for the error of a thunk.
func fails(t *testing.T, s *modules.System, x *eval.Thunk, want api.Trouble) {
	t.Helper()
	if _, err := s.Machine().Deep(x); err == nil || troubleOf(t, err) != want {
		t.Errorf("%v; must be %+v", err, want)
	}
}

// config is a module's, which it must have.
func config(t *testing.T, s *modules.System, module string) *eval.Thunk {
	t.Helper()
	x, has := s.Config(module)
	if !has || x == nil {
		t.Fatalf("%s has no config", module)
	}
	return x
}

// preset is an option's default, which it must have.
func preset(t *testing.T, s *modules.System, path string) *eval.Thunk {
	t.Helper()
	x, has := s.Default(path)
	if !has || x == nil {
		t.Fatalf("%s has no default", path)
	}
	return x
}

func TestM3Machine(t *testing.T) {
	l := list("main", `{ imports = [ "b" ]; options.x = `+withOne+`; config.x = 1 + 2; }`, "b", "c: { config.x = c.x; }")
	s, n, err := modules.Load(l, "main", 1000)
	if err != nil || s.Machine() == nil || s.Machine() != s.Machine() || s.Machine().Steps() != n {
		t.Fatalf("%v, %d", err, n)
	}
	// What is told later takes its steps from the same fuel.
	shows(t, s, config(t, s, "main"), `{ "x"=3; }`)
	if s.Machine().Steps() != n+6 {
		t.Errorf("%d steps, behind %d", s.Machine().Steps(), n)
	}
	s, _, err = modules.Load(l, "main", n)
	if err != nil {
		t.Fatal(err)
	}
	if err := s.Machine().Step(); err == nil || troubleOf(t, err) != (api.Trouble{Err: api.ErrFuel}) {
		t.Errorf("%v", err)
	}
}

func TestM3Config(t *testing.T) {
	s := system(t, "other", "{ config = 4; }", "c", "{ options.x = "+whole+"; }", "b", "c: { config = 1 / 0; }", "main", `{ imports = [ "b" "c" ]; config.a.b = [ 1 2 ]; }`)
	shows(t, s, config(t, s, "main"), `{ "a"={ "b"=[ 1 2 ]; }; }`)
	fails(t, s, config(t, s, "b"), api.Trouble{Module: "b", At: 16, Err: api.ErrZero})
	for _, name := range []string{"c", "other", "", "no", "mai", "main "} {
		if x, has := s.Config(name); has || x != nil {
			t.Errorf("%q has a config", name)
		}
	}
	// It is a thunk, whatever it may be: nothing is asked of it.
	for _, text := range []string{"1 / 0", "5", "null", "y", "config", "mkIf", "let x = x; in x"} {
		config(t, system(t, "main", "{ config = "+text+"; }"), "main")
	}
	// It is the module's own, and is found once.
	s = system(t, "main", "{ config = 1 + 1; }")
	shows(t, s, config(t, s, "main"), "2")
	n := s.Machine().Steps()
	shows(t, s, config(t, s, "main"), "2")
	if s.Machine().Steps() != n+1 {
		t.Errorf("it was found again")
	}
}

func TestM3Default(t *testing.T) {
	s := system(t, "main", `{ imports = [ "b" ]; options = { a.b = mkOption { type = "int"; default = 1 / 0; }; c = `+whole+`; d = mkOption { type = "int"; default = null; }; }; }`,
		"b", `c: { options.e.f = mkOption { type = "lines"; default = [ 5 { x = 1; } ]; }; config.c = 5; }`)
	for path, want := range map[string]string{"asserts": "{ }", "files": "{ }", "services": "{ }", "users": "[ ]", "d": "null", "e.f": `[ 5 { "x"=1; } ]`} {
		shows(t, s, preset(t, s, path), want)
	}
	for _, path := range []string{"c", "a", "a.b.c", "", "e", "f", "no", "user", "users.", "Users", "e.f."} {
		if x, has := s.Default(path); has || x != nil {
			t.Errorf("%q has a default", path)
		}
	}
	fails(t, s, preset(t, s, "a.b"), api.Trouble{Module: "main", At: 76, Err: api.ErrZero})
	for _, o := range s.Options() {
		if _, has := s.Default(o.Path); has != o.Default {
			t.Errorf("%+v: %v", o, has)
		}
	}
}

func TestM3Tell(t *testing.T) {
	main := `config: { imports = [ "b" ]; options.z = mkOption { type = "int"; default = config.y + 3; }; config.x = config.y + 1; }`
	b := `c: let d = c.y; in { config = [ d (d + 2) c.y ]; }`
	s := system(t, "main", main, "b", b)
	m := s.Machine()
	x, y, z := config(t, s, "main"), config(t, s, "b"), preset(t, s, "z")
	asked := 0
	n := m.Steps()
	s.Tell(m.Later(func() (*eval.Thunk, error) {
		asked++
		return m.Set([]string{"y"}, []*eval.Thunk{m.Put(number(40))}), nil
	}))
	if asked != 0 || m.Steps() != n {
		t.Errorf("Tell forces")
	}
	shows(t, s, x, `{ "x"=41; }`)
	shows(t, s, y, `[ 40 42 40 ]`)
	shows(t, s, z, `43`)
	if asked != 1 {
		t.Errorf("asked %d times", asked)
	}
	// Who does not ask does not need it.
	s = system(t, "main", "config: { config = { a = 1; b = config; }; }")
	shape, err := s.Machine().Force(config(t, s, "main"))
	if err != nil || !slices.Equal(shape.Names, []string{"a", "b"}) {
		t.Fatalf("%v, %v", shape, err)
	}
	shows(t, s, shape.Items[0], "1")
	s.Tell(s.Machine().Put(number(7)))
	s.Tell(s.Machine().Put(number(8)))
	shows(t, s, shape.Items[1], "8")
}

func TestM3NotTold(t *testing.T) {
	text := "config: { config.x = config.y + 1; }"
	s := system(t, "main", text)
	fails(t, s, config(t, s, "main"), at(21, api.ErrLoop))
	// What needs itself by way of the config is found out, too.
	s = system(t, "main", text)
	x := config(t, s, "main")
	shape, err := s.Machine().Force(x)
	if err != nil {
		t.Fatal(err)
	}
	s.Tell(s.Machine().Set([]string{"y"}, shape.Items))
	fails(t, s, x, at(27, api.ErrLoop))
	s = system(t, "main", "config: { config = config; }")
	x = config(t, s, "main")
	s.Tell(x)
	fails(t, s, x, at(19, api.ErrLoop))
	s = system(t, "main", "{ config = 5; }")
	x = config(t, s, "main")
	s.Tell(x)
	shows(t, s, x, "5")
}

// Systems have nothing to do with one another.
func TestM3Apart(t *testing.T) {
	a := system(t, "main", "c: { config = c; }")
	b := system(t, "main", "c: { config = c; }")
	a.Tell(a.Machine().Put(number(1)))
	fails(t, b, config(t, b, "main"), at(14, api.ErrLoop))
	shows(t, a, config(t, a, "main"), "1")
}

// What is answered is the caller's own, and what is handed in is not kept.
func TestR3(t *testing.T) {
	l := list("b", "{ options.x = "+withOne+"; config = 2; }", "main", `{ imports = [ "b" ]; }`, "c", "((")
	kept := slices.Clone(l)
	l = append(make([]api.Module, 0, 30), l...)
	s, _, err := modules.Load(l, "main", 1000)
	if err != nil || !slices.Equal(l, kept) || slices.ContainsFunc(l[len(l):cap(l)], func(m api.Module) bool { return m != api.Module{} }) {
		t.Fatalf("%v, %v", l, err)
	}
	for i := range l[:cap(l)] {
		l[:cap(l)][i] = api.Module{Name: "spoilt", Text: "spoilt"}
	}
	order, options := s.Order(), s.Options()
	want := append(own(), modules.Option{Path: "x", Type: "int", Module: "b", Default: true})
	for range 3 {
		names, all := s.Order(), s.Options()
		if !slices.Equal(names, []string{"main", "b"}) || !slices.Equal(all, want) {
			t.Fatalf("%v, %v", names, all)
		}
		for i := range names[:cap(names)] {
			names[:cap(names)][i] = "spoilt"
		}
		for i := range all[:cap(all)] {
			all[:cap(all)][i] = modules.Option{Path: "spoilt"}
		}
	}
	if !slices.Equal(order, []string{"main", "b"}) || !slices.Equal(options, want) {
		t.Errorf("%v, %v", order, options)
	}
	shows(t, s, config(t, s, "b"), "2")
	shows(t, s, preset(t, s, "x"), "1")
}
