package modules_test

import (
	"math/rand/v2"
	"slices"
	"strings"
	"testing"

	"bootjack/api"
	"bootjack/modules"
	"bootjack/types"
)

// sketch is a module as plain data, of which both its text and what it must
// tell are made.
type sketch struct {
	name    string
	form    string  // what its text is: a set, a function, or something else
	imports []thing // nil: there are none
	options *thing  // nil: there are none
	config  bool
	at      int // where a fault of its own stands
}

// thing is something in a module that is forced.
type thing struct {
	form  string
	text  string            // of a string; of an option its type
	names map[string]*thing // of a set
	has   bool              // of an option: a default
	at    int               // where the machine tells its fault
}

// writer makes a sketch's text, and notes where things stand in it.
type writer struct {
	*rand.Rand
	strings.Builder
}

func (w *writer) put(l ...string) {
	for _, s := range l {
		w.WriteString(s)
	}
}

func (w *writer) module(s *sketch) string {
	w.put(strings.Repeat(" ", w.IntN(3)))
	s.at = w.Len()
	switch s.form {
	case "broken":
		w.put("{ a = ")
		s.at = w.Len()
		return w.String()
	case "zero":
		w.put("1 / 0")
		s.at += 2
		return w.String()
	case "loop":
		w.put("c: c.x")
		s.at += 3
		return w.String()
	case "number":
		w.put("5")
		return w.String()
	case "function":
		w.put("c: ")
	case "let":
		w.put("let q = 1 / 0; in ")
	}
	w.parts(s)
	return w.String()
}

// parts writes the names of a module, in any order.
func (w *writer) parts(s *sketch) {
	w.put("{ ")
	for _, i := range w.Perm(4) {
		switch {
		case i == 0 && s.imports != nil:
			w.put("imports = [ ")
			for k := range s.imports {
				w.thing(&s.imports[k])
				w.put(" ")
			}
			w.put("]; ")
		case i == 1 && s.options != nil:
			w.put("options = ")
			w.thing(s.options)
			w.put("; ")
		case i == 2 && s.config:
			w.put("config.x = 1 / 0; ")
		case i == 3 && s.form == "more":
			w.put("more = 1; ")
		}
	}
	w.put("}")
}

func (w *writer) thing(x *thing) {
	switch x.form {
	case "string":
		w.put(`"`, x.text, `"`)
	case "number":
		w.put("5")
	case "zero":
		x.at = w.Len() + 3
		w.put("(1 / 0)")
	case "mark":
		w.put("(mkForce 1)")
	case "untyped":
		w.put("mkOption { default = 1; }")
	case "option":
		w.put(`mkOption { type = "`, x.text, `"; `)
		w.preset(x)
	case "bare":
		w.put(`{ type = "`, x.text, `"; _is = "option"; `)
		w.preset(x)
	case "set":
		w.set(x)
	}
}

func (w *writer) preset(x *thing) {
	if x.has {
		w.put("default = 1 / 0; ")
	}
	w.put("}")
}

func (w *writer) set(x *thing) {
	names := sortedNames(x)
	w.Shuffle(len(names), func(i, k int) { names[i], names[k] = names[k], names[i] })
	w.put("{ ")
	for _, name := range names {
		w.put(`"`, name, `" = `)
		w.thing(x.names[name])
		w.put("; ")
	}
	w.put("}")
}

func sortedNames(x *thing) []string {
	var names []string
	for name := range x.names {
		names = append(names, name)
	}
	slices.Sort(names)
	return names
}

// cost tells the steps that it takes to force something for the first time.
func (x *thing) cost() int {
	return map[string]int{"string": 1, "number": 1, "zero": 3, "mark": 3, "untyped": 4, "option": 4, "bare": 1, "set": 1}[x.form]
}

// model reckons what must be told, without any machine.
type model struct {
	answer
	isWrong bool
	looks   []*sketch
}

func (m *model) fail(module string, at int, option string, e api.Errno) {
	m.trouble, m.isWrong = api.Trouble{Module: module, At: at, Option: option, Err: e}, true
}

// wish is a module that is to be visited, and who asks for it.
type wish struct{ name, asker string }

// reckon goes through an agenda, where modules visit one another.
func reckon(l []*sketch, main string) answer {
	m := &model{}
	agenda := []wish{{main, main}}
	for len(agenda) > 0 && !m.isWrong {
		next := agenda[0]
		agenda = append(m.visit(l, next), agenda[1:]...)
	}
	m.options = own()
	for _, s := range m.looks {
		if s.options != nil && !m.isWrong {
			m.look(s, s.options, nil)
		}
	}
	if m.isWrong {
		return answer{steps: m.steps, trouble: m.trouble}
	}
	slices.SortFunc(m.options, func(a, b modules.Option) int { return strings.Compare(a.Path, b.Path) })
	return m.answer
}

func (m *model) visit(l []*sketch, next wish) (asked []wish) {
	if slices.Contains(m.order, next.name) {
		return nil
	}
	i := slices.IndexFunc(l, func(s *sketch) bool { return s.name == next.name })
	if i < 0 {
		m.fail(next.asker, 0, "", api.ErrImport)
		return nil
	}
	s := l[i]
	m.order, m.looks = append(m.order, s.name), append(m.looks, s)
	m.steps += map[string]int{"zero": 3, "loop": 3, "number": 1, "function": 2, "let": 2, "set": 1, "more": 1}[s.form]
	switch s.form {
	case "broken":
		m.fail(s.name, s.at, "", api.ErrShort)
	case "zero":
		m.fail(s.name, s.at, "", api.ErrZero)
	case "loop":
		m.fail(s.name, s.at, "", api.ErrLoop)
	case "number", "more":
		m.fail(s.name, 0, "", api.ErrModule)
	}
	if m.isWrong || s.imports == nil {
		return nil
	}
	m.steps++
	for _, x := range s.imports {
		m.steps += x.cost()
		switch x.form {
		case "zero":
			m.fail(s.name, x.at, "", api.ErrZero)
			return nil
		case "number":
			m.fail(s.name, 0, "", api.ErrModule)
			return nil
		}
		asked = append(asked, wish{x.text, s.name})
	}
	return asked
}

func (m *model) look(s *sketch, x *thing, names []string) {
	path := strings.Join(names, ".")
	m.steps += 1 + x.cost()
	switch {
	case x.form == "zero":
		m.fail(s.name, x.at, "", api.ErrZero)
	case len(names) > 8, x.form == "number", x.form == "mark", x.form == "untyped":
		m.fail(s.name, 0, path, api.ErrModule)
	case x.form == "set":
		m.lookWithin(s, x, names)
	default:
		m.declare(s, x, path)
	}
}

func (m *model) lookWithin(s *sketch, x *thing, names []string) {
	for _, name := range sortedNames(x) {
		if m.isWrong {
			return
		}
		inner := append(slices.Clone(names), name)
		if name == "" || strings.Trim(name, "abcdefghijklmnopqrstuvwxyzABCDEFGHIJKLMNOPQRSTUVWXYZ0123456789_-") != "" {
			m.fail(s.name, 0, strings.Join(inner, "."), api.ErrModule)
			return
		}
		m.look(s, x.names[name], inner)
	}
}

func (m *model) declare(s *sketch, x *thing, path string) {
	if x.form == "bare" {
		m.steps++
	}
	if path == "" {
		m.fail(s.name, 0, path, api.ErrModule)
		return
	}
	m.steps++
	clashes := slices.ContainsFunc(m.options, func(o modules.Option) bool {
		a, b := strings.Split(o.Path, "."), strings.Split(path, ".")
		n := min(len(a), len(b))
		return slices.Equal(a[:n], b[:n])
	})
	switch {
	case !types.Right(x.text):
		m.fail(s.name, 0, path, api.ErrModule)
	case clashes:
		m.fail(s.name, 0, path, api.ErrDeclared)
	case len(m.options) == 64:
		m.fail(s.name, 0, path, api.ErrMany)
	default:
		m.options = append(m.options, modules.Option{Path: path, Type: x.text, Module: s.name, Default: x.has})
	}
}

// maker makes sketches, most of them right.
type maker struct {
	*rand.Rand
	module string
}

func (g *maker) pick(l ...string) string { return l[g.IntN(len(l))] }

// rarely is true once in so many times.
func (g *maker) rarely(n int) bool { return g.IntN(n) == 0 }

func (g *maker) sketch(name string) *sketch {
	g.module = name
	s := &sketch{name: name, form: g.pick("set", "set", "function", "let"), config: g.rarely(2)}
	if g.rarely(25) {
		s.form = g.pick("broken", "zero", "loop", "number", "more")
	}
	if !g.rarely(3) {
		s.imports = []thing{}
		for range g.IntN(5) {
			s.imports = append(s.imports, g.wanted())
		}
	}
	if !g.rarely(4) {
		deep := 1 + g.IntN(3)
		if g.rarely(40) {
			deep = 0
		}
		s.options = g.options(deep)
	}
	if g.rarely(30) && s.options != nil {
		for range 4 + g.IntN(5) {
			s.options = &thing{form: "set", names: map[string]*thing{g.name(): s.options}}
		}
	}
	return s
}

func (g *maker) wanted() thing {
	if g.rarely(40) {
		return thing{form: g.pick("zero", "number")}
	}
	if g.rarely(60) {
		return thing{form: "string", text: g.pick("no", "", "Main")}
	}
	return thing{form: "string", text: g.pick("main", "b", "c", "d", "e")}
}

// name is often one that no other module has.
func (g *maker) name() string {
	switch {
	case g.rarely(120):
		return g.pick("", "a b", "a.b", "a'", "users", "files")
	case g.rarely(3):
		return g.pick("a", "b", "a-b", "x")
	}
	return g.module + g.pick("a", "b", "a-b", "A", "a_", "0", "-a")
}

func (g *maker) options(deep int) *thing {
	if g.rarely(60) {
		return &thing{form: g.pick("zero", "number", "mark", "untyped")}
	}
	if deep == 0 && !g.rarely(8) {
		kind := g.pick("int", "list int 1 2", "enum a b", "unit", "attrs bool")
		if g.rarely(40) {
			kind = g.pick("no", "int 2 1", "list")
		}
		return &thing{form: g.pick("option", "bare"), text: kind, has: g.rarely(2)}
	}
	x := &thing{form: "set", names: map[string]*thing{}}
	for range g.IntN(4) {
		x.names[g.name()] = g.options(max(deep-1, 0))
	}
	return x
}

// written makes the modules of sketches.
func written(r *rand.Rand, l []*sketch) []api.Module {
	var out []api.Module
	for _, s := range l {
		out = append(out, api.Module{Name: s.name, Text: (&writer{Rand: r}).module(s)})
	}
	return out
}

func TestM1Model(t *testing.T) {
	r := rand.New(rand.NewPCG(16, 1))
	told := map[api.Errno]int{}
	most := 0
	for range 15000 {
		g := &maker{Rand: r}
		var l []*sketch
		for _, name := range []string{"main", "b", "c", "d", "e"} {
			if !g.rarely(60) {
				l = append(l, g.sketch(name))
			}
		}
		texts := written(r, l)
		want := reckon(l, "main")
		got := load(t, texts, "main", api.MaxFuel)
		if !alike(got, want) {
			t.Fatalf("%+v:\n%+v; must be\n%+v", texts, got, want)
		}
		told[want.trouble.Err]++
		most = max(most, len(want.options))
		checkElsewise(t, r, texts, want)
	}
	for _, e := range []api.Errno{api.OK, api.ErrImport, api.ErrModule, api.ErrDeclared, api.ErrZero, api.ErrLoop, api.ErrShort} {
		if told[e] < 150 {
			t.Errorf("%v was told %d times", e, told[e])
		}
	}
	if told[api.OK] < 3000 || most < 12 {
		t.Errorf("%d systems, with at most %d options", told[api.OK], most)
	}
}

// checkElsewise asks again, with modules in another order, and with other fuel.
func checkElsewise(t *testing.T, r *rand.Rand, l []api.Module, want answer) {
	t.Helper()
	l = slices.Clone(l)
	r.Shuffle(len(l), func(i, k int) { l[i], l[k] = l[k], l[i] })
	if got := load(t, l, "main", want.steps+r.IntN(3)); !alike(got, want) {
		t.Fatalf("%+v:\n%+v; must be\n%+v", l, got, want)
	}
	if want.steps == 0 {
		return
	}
	fuel := r.IntN(want.steps)
	if got := load(t, l, "main", fuel); got.trouble.Err != api.ErrFuel || got.trouble.Option != "" || got.steps != fuel {
		t.Fatalf("%+v, fuel %d:\n%+v; must be ErrFuel", l, fuel, got)
	}
}

// Many options in all, so that there may be too many.
func TestM1ModelOfMany(t *testing.T) {
	r := rand.New(rand.NewPCG(16, 2))
	told := map[api.Errno]int{}
	for range 600 {
		g := &maker{Rand: r}
		main := &sketch{name: "main", form: "set"}
		l := []*sketch{main}
		for _, name := range []string{"b", "c", "d", "e"} {
			main.imports = append(main.imports, thing{form: "string", text: name})
			x := &thing{form: "set", names: map[string]*thing{}}
			for range 12 + g.IntN(10) {
				x.names[name+g.pick("a", "b", "c", "d", "e", "f", "g", "h")+g.pick("0", "1", "2", "3", "4", "5")] = &thing{form: "option", text: "int"}
			}
			if g.rarely(20) {
				x.names["users"] = &thing{form: "option", text: "int"}
			}
			l = append(l, &sketch{name: name, form: "set", options: x})
		}
		texts := written(r, l)
		want := reckon(l, "main")
		if got := load(t, texts, "main", api.MaxFuel); !alike(got, want) {
			t.Fatalf("%+v:\n%+v; must be\n%+v", texts, got, want)
		}
		told[want.trouble.Err]++
	}
	for _, e := range []api.Errno{api.OK, api.ErrMany, api.ErrDeclared} {
		if told[e] < 30 {
			t.Errorf("%v was told %d times", e, told[e])
		}
	}
}

// FuzzM1 takes any texts, and holds to what follows from the promises.
func FuzzM1(f *testing.F) {
	f.Add(`{ imports = [ "b" ]; options.a = mkOption { type = "int"; default = 1; }; }`, `config: { config.a = config.a; }`, 300)
	f.Add(`c: { imports = map (x: x) [ "b" "main" ]; }`, `{ options.a.b = { _is = "option"; type = "lines"; }; }`, 20)
	f.Add(`let s = { a = s; }; in { options = s; }`, `mkOption`, 1000)
	f.Add(`{ imports = [ "b" "no" ]; }`, `{ imports = [ 1 ]; more = 2; }`, 7)
	f.Add(`(x: { options = x; imports = [ "b" ]; }) { users = mkOption { type = "int"; }; }`, `{ }`, 100)
	f.Fuzz(func(t *testing.T, main, b string, fuel int) {
		l := list("main", main, "b", b)
		a := load(t, l, "main", fuel)
		if again := load(t, list("b", b, "main", main), "main", fuel); !alike(a, again) {
			t.Fatalf("%+v; the other way round %+v", a, again)
		}
		if fuel < 0 || fuel > 5000 {
			return
		}
		if a.trouble.Err != api.ErrFuel {
			if more := load(t, l, "main", fuel+1+a.steps); !alike(a, more) {
				t.Fatalf("%+v; with more fuel %+v", a, more)
			}
			if a.steps > 0 {
				if less := load(t, l, "main", a.steps-1); less.trouble.Err != api.ErrFuel || less.steps != a.steps-1 {
					t.Fatalf("%+v; with less fuel %+v", a, less)
				}
			}
		}
		checkOptions(t, a)
	})
}

func checkOptions(t *testing.T, a answer) {
	if a.trouble.Err != api.OK {
		return
	}
	if a.order[0] != "main" || len(a.options) < 4 || len(a.options) > 64 {
		t.Fatalf("%+v", a)
	}
	for i, o := range a.options {
		if !types.Right(o.Type) || i > 0 && a.options[i-1].Path >= o.Path || o.Path == "" || !slices.Contains(append(a.order, ""), o.Module) {
			t.Fatalf("%+v", a)
		}
		for _, other := range a.options {
			if strings.HasPrefix(other.Path, o.Path+".") {
				t.Fatalf("%+v", a)
			}
		}
	}
}
