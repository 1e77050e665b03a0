package config_test

import (
	"math"
	"math/rand/v2"
	"slices"
	"strings"
	"testing"

	"bootjack/api"
	"bootjack/modules"
)

// writer makes the text of a module's things, and notes where they stand in it.
type writer struct {
	*rand.Rand
	strings.Builder
	module string
}

func (w *writer) put(l ...string) {
	for _, s := range l {
		w.WriteString(s)
	}
}

// thing writes one so that it may stand wherever something is called with it.
func (w *writer) thing(x *thing) {
	x.module = w.module
	switch {
	case x.call != "":
		w.call(x)
	case x.form == "plain":
		w.put(x.text)
	case x.form == "zero":
		w.put("(1 / 0)")
		x.at = w.Len() - 4
	case x.form == "ask":
		w.put("(c.", x.text)
		x.at = strings.LastIndex(w.String(), ".")
		w.put(")")
	case x.form == "list":
		w.put("[ ")
		for _, p := range x.parts {
			w.thing(p)
			w.put(" ")
		}
		w.put("]")
	case x.form == "set":
		w.put("{ ")
		for _, i := range w.Perm(len(x.names)) {
			w.put(`"`, x.names[i], `" = `)
			w.thing(x.parts[i])
			w.put("; ")
		}
		w.put("}")
	}
}

func (w *writer) call(x *thing) {
	w.put("(", x.call)
	for _, name := range []string{"when", "rank", "value", "values"} {
		if p := x.part(name); p != nil && p.state == unknown {
			w.put(" ")
			w.thing(p)
		}
	}
	w.put(")")
}

// sketch is a module as plain data.
type sketch struct {
	name     string
	imports  []string
	declares []*wanted
	config   *thing // nil: there is none
}

func (w *writer) sketch(s *sketch) string {
	w.module = s.name
	w.put(strings.Repeat(" ", w.IntN(3)), "c: { imports = [ ")
	for _, name := range s.imports {
		w.put(`"`, name, `" `)
	}
	w.put("]; ")
	for _, o := range s.declares {
		w.put("options.", o.path, ` = mkOption { type = "`, o.kind, `"; `)
		if o.preset != nil {
			w.put("default = ")
			w.thing(o.preset)
			w.put("; ")
		}
		w.put("}; ")
	}
	if s.config != nil {
		w.put("config = ")
		w.thing(s.config)
		w.put("; ")
	}
	w.put("}")
	return w.String()
}

// maker makes sketches, most of them right.
type maker struct {
	*rand.Rand
	options []*wanted
	path    string // of the option that something is made for: those behind it may be asked for
}

// nobody is behind all paths.
const nobody = "~"

// rarely is true once in so many times.
func (g *maker) rarely(n int) bool { return g.IntN(n) == 0 }

func (g *maker) pick(l ...string) string { return l[g.IntN(len(l))] }

// declared makes options of all kinds of types, some with defaults.
func (g *maker) declared() (l []*wanted) {
	for _, o := range []wanted{{path: "a-b", kind: "lines"}, {path: "a.b", kind: "int"}, {path: "a.c.d", kind: "bool"}, {path: "a.c.e", kind: "list int"}, {path: "a0", kind: "bool"}, {path: "f", kind: "float"}, {path: "on", kind: "bool"}, {path: "x.y", kind: "attrs int"}, {path: "x.z", kind: "enum x y"}, {path: "zz", kind: "unit"}} {
		if !g.rarely(3) {
			l = append(l, &o)
		}
	}
	byPath := func(a, b *wanted) int { return strings.Compare(a.path, b.path) }
	g.options = append(own(), l...)
	slices.SortFunc(g.options, byPath)
	for _, o := range l {
		if !g.rarely(12) {
			g.path = o.path
			o.preset = g.value(o.kind)
		}
	}
	g.path = nobody
	g.Shuffle(len(l), func(i, k int) { l[i], l[k] = l[k], l[i] })
	return l
}

func own() []*wanted {
	set, list := knownOf(api.Value{Kind: api.VSet}), knownOf(api.Value{Kind: api.VList})
	return []*wanted{
		{path: "asserts", kind: "attrs bool", preset: set},
		{path: "files", kind: "attrs lines", preset: set},
		{path: "services", kind: "attrs unit", preset: set},
		{path: "users", kind: "list string", preset: list},
	}
}

// ask is the value of another option of a type, if there is one. Seldom are
// there some that need one another.
func (g *maker) ask(kind string) *thing {
	var paths []string
	for _, o := range g.options {
		if o.kind == kind && (o.path > g.path || g.rarely(60)) {
			paths = append(paths, o.path)
		}
	}
	if len(paths) == 0 {
		return g.plain(kind)
	}
	path := g.pick(paths...)
	return &thing{form: "ask", text: path, steps: 2 + strings.Count(path, ".")}
}

// value is something that may be of a type.
func (g *maker) value(kind string) *thing {
	switch {
	case g.rarely(12):
		return g.ask(kind)
	case g.rarely(300):
		return &thing{form: "zero", steps: 3}
	case g.rarely(300):
		return g.plain(g.pick("int", "bool", "string", "null", "function", "list int", "attrs int", "float"))
	}
	return g.plain(kind)
}

func (g *maker) truth() *thing {
	if g.rarely(3) {
		return plain("false", api.Value{Kind: api.VBool}, 1)
	}
	return plain("true", api.Value{Kind: api.VBool, Int: 1}, 1)
}

func (g *maker) plain(kind string) *thing {
	first, rest, _ := strings.Cut(kind, " ")
	switch first {
	case "int":
		return whole("1", 1)
	case "bool":
		return g.truth()
	case "float":
		if g.rarely(20) {
			return plain("nan", api.Value{Kind: api.VFloat, Float: math.NaN()}, 1)
		}
		if g.rarely(2) {
			return whole("2", 2)
		}
		return plain("2.0", api.Value{Kind: api.VFloat, Float: 2}, 1)
	case "null":
		return plain("null", api.Value{}, 1)
	case "function":
		return plain("(x: x)", api.Value{Kind: api.VFunc}, 1)
	case "enum":
		return word("x")
	case "list":
		l := listOf()
		for range g.IntN(4) {
			l.parts = append(l.parts, g.value(rest))
		}
		return l
	case "attrs":
		return g.attrs(rest)
	case "unit":
		return g.unit()
	case "string":
		if g.rarely(60) {
			return word(g.pick("", "A", "0", "a_", "abcdefghijklmnopq"))
		}
	}
	return word(g.pick("a", "b-0", "net", "web"))
}

// attrs has names that often are not those of another one of its items' type.
func (g *maker) attrs(kind string) *thing {
	names := []string{"net", "web", "a", "log-0"}
	if kind == "lines" {
		names = append(names, "etc/a", "etc/b.c", "x/y/z")
	}
	if g.rarely(40) {
		names = append(names, g.pick("", "A", "a/", "etc", "..", "a b", "x/y", "_is"))
	}
	x := setOf()
	slices.Sort(names)
	for _, name := range names {
		if !g.rarely(3) {
			continue
		}
		item := g.value(kind)
		if kind == "bool" && !g.rarely(12) {
			item = plain("true", api.Value{Kind: api.VBool, Int: 1}, 1)
		}
		x.names, x.parts = append(x.names, name), append(x.parts, item)
	}
	return x
}

// unit is mostly one that stands behind others by their names.
func (g *maker) unit() *thing {
	x := setOf()
	if g.rarely(4) {
		x.names, x.parts = append(x.names, "after"), append(x.parts, listOf(word(g.pick("a", "log-0", "no"))))
	}
	if g.rarely(20) {
		x.names, x.parts = append(x.names, "requires"), append(x.parts, listOf(word(g.pick("a", "net"))))
	}
	if g.rarely(6) {
		x.names, x.parts = append(x.names, "start"), append(x.parts, word("s"))
	}
	return x
}

// marked puts marks about what is made, or leaves it as it is.
func (g *maker) marked(deep int, inner func() *thing) *thing {
	if deep == 0 {
		return inner()
	}
	next := func() *thing { return g.marked(deep-1, inner) }
	switch g.IntN(12) {
	case 0:
		return g.mark("mkIf", 4, setOf("_is", word("if"), "value", next(), "when", g.condition()))
	case 1:
		return g.mark("mkOverride", 4, setOf("_is", word("override"), "rank", g.rank(50, 100, 1000, 1500), "value", next()))
	case 2:
		return g.mark("mkOrder", 4, setOf("_is", word("order"), "rank", g.rank(500, 1000, 1001), "value", next()))
	case 3:
		if g.rarely(3) {
			return called("mkForce", 3, setOf("_is", word("override"), "rank", whole("", 50), "value", next()), "rank")
		}
		return called("mkDefault", 3, setOf("_is", word("override"), "rank", whole("", 1000), "value", next()), "rank")
	case 4:
		values := listOf()
		for range g.IntN(4) {
			values.parts = append(values.parts, next())
		}
		if g.rarely(60) {
			values = g.value("int")
		}
		return g.mark("mkMerge", 3, setOf("_is", word("merge"), "values", values))
	}
	return inner()
}

// mark makes one by its built-in, or as a set that may lack something.
func (g *maker) mark(call string, steps int, x *thing) *thing {
	if !g.rarely(3) {
		return called(call, steps, x)
	}
	if g.rarely(30) {
		i := 1 + g.IntN(len(x.names)-1)
		x.names, x.parts = slices.Delete(x.names, i, i+1), slices.Delete(x.parts, i, i+1)
	}
	if g.rarely(40) {
		x.parts[0] = []*thing{word("no"), word("option"), whole("1", 1), word("merge"), {form: "zero", steps: 3}}[g.IntN(5)]
	}
	return x
}

func (g *maker) condition() *thing {
	if g.rarely(4) {
		return g.value("bool")
	}
	if g.rarely(4) {
		return g.ask("bool")
	}
	return g.truth()
}

func (g *maker) rank(l ...int64) *thing {
	if g.rarely(15) {
		return g.value(g.pick("int", "int", "float"))
	}
	if g.rarely(15) {
		return plain("(-5)", api.Value{Kind: api.VInt, Int: -5}, 2)
	}
	n := l[g.IntN(len(l))]
	return whole(map[int64]string{50: "50", 100: "100", 500: "500", 1000: "1000", 1001: "1001", 1500: "1500"}[n], n)
}

// config makes what a module says of options, of which these many names have
// led to a set already.
func (g *maker) config(names []string) *thing {
	ahead := strings.Join(append(slices.Clone(names), ""), ".")
	var next []string
	for _, o := range g.options {
		if strings.HasPrefix(o.path, ahead) {
			next = append(next, strings.Split(o.path, ".")[len(names)])
		}
	}
	if g.rarely(80) {
		next = append(next, g.pick("no", "", "a.b", "user", "a b", "c"))
	}
	slices.Sort(next)
	x := setOf()
	for _, name := range slices.Compact(next) {
		if !g.rarely(3) {
			x.names = append(x.names, name)
			x.parts = append(x.parts, g.part(append(slices.Clone(names), name)))
		}
	}
	return x
}

func (g *maker) part(names []string) *thing {
	if g.rarely(200) {
		return g.value("int")
	}
	was := g.path
	defer func() { g.path = was }()
	path := strings.Join(names, ".")
	for _, o := range g.options {
		if o.path == path {
			g.path = path
			return g.marked(2, func() *thing { return g.value(o.kind) })
		}
	}
	g.path = nobody
	return g.marked(2, func() *thing { return g.config(names) })
}

// made makes the sketches of some modules, in the order in which they are asked
// for.
func (g *maker) made() []*sketch {
	declared := g.declared()
	cut := g.IntN(len(declared) + 1)
	main, b, c := &sketch{name: "main", imports: []string{"b"}}, &sketch{name: "b"}, &sketch{name: "c"}
	main.declares, b.declares = declared[:cut], declared[cut:]
	l := []*sketch{main, b, c}
	switch g.IntN(3) {
	case 0:
		main.imports = []string{"b", "c"}
	case 1:
		b.imports = []string{"c", "main"}
	default:
		l = []*sketch{main, b}
	}
	for _, s := range l {
		if !g.rarely(5) {
			s.config = g.marked(2, func() *thing { return g.config(nil) })
		}
	}
	return l
}

// reckonerOf makes the model of sketches, behind what Load has done.
func reckonerOf(steps int, options []*wanted, l []*sketch) *reckoner {
	r := &reckoner{steps: steps, options: options}
	for _, s := range l {
		if s.config != nil {
			r.says = append(r.says, saying{s.name, s.config})
		}
	}
	return r
}

func TestG1Model(t *testing.T) {
	r := rand.New(rand.NewPCG(18, 1))
	told := map[api.Errno]int{}
	inNode := 0
	for range 5000 {
		g := &maker{Rand: r}
		l := g.made()
		var texts []api.Module
		for _, s := range l {
			texts = append(texts, api.Module{Name: s.name, Text: (&writer{Rand: r}).sketch(s)})
		}
		_, steps, err := modules.Load(texts, "main", api.MaxFuel)
		if err != nil {
			if e := troubleOf(t, err).Err; e != api.ErrNodes && e != api.ErrSource && e != api.ErrDeep {
				t.Fatalf("%+v: %+v", texts, troubleOf(t, err))
			}
			continue
		}
		want := reckonerOf(steps, g.options, l).reckon()
		if got := evaluate(t, texts, "main", api.MaxFuel); got != want {
			t.Fatalf("%+v:\n%+v; must be\n%+v", texts, got, want)
		}
		told[want.trouble.Err]++
		if want.trouble.Err == api.ErrType && want.trouble.Module != "" {
			inNode++
		}
		checkElsewise(t, r, texts, want)
	}
	for _, e := range []api.Errno{api.OK, api.ErrLoop, api.ErrUnset, api.ErrType, api.ErrConflict, api.ErrOption, api.ErrAssert, api.ErrPath, api.ErrUnit, api.ErrZero} {
		if told[e] < 40 {
			t.Errorf("%v was told %d times", e, told[e])
		}
	}
	if told[api.OK] < 1500 || inNode < 10 {
		t.Errorf("%d meanings, %d errors of finding for a node", told[api.OK], inNode)
	}
}

// checkElsewise asks again, with modules in another order, and with other fuel.
func checkElsewise(t *testing.T, r *rand.Rand, l []api.Module, want answer) {
	t.Helper()
	l = slices.Clone(l)
	r.Shuffle(len(l), func(i, k int) { l[i], l[k] = l[k], l[i] })
	if got := evaluate(t, l, "main", want.steps+r.IntN(3)); got != want {
		t.Fatalf("%+v:\n%+v; must be\n%+v", l, got, want)
	}
	fuel := r.IntN(want.steps)
	if got := evaluate(t, l, "main", fuel); got.trouble.Err != api.ErrFuel || got.trouble.Option != "" || got.steps != fuel {
		t.Fatalf("%+v, fuel %d:\n%+v; must be ErrFuel", l, fuel, got)
	}
}

// FuzzG1 takes any texts, and holds to what follows from the promise.
func FuzzG1(f *testing.F) {
	f.Add(`config: { imports = [ "b" ]; config.users = mkIf config.on [ "www" ]; }`, `{ options.on = mkOption { type = "bool"; default = true; }; config.files."etc/web" = "x"; }`, 300)
	f.Add(`c: { imports = [ "b" ]; config = mkMerge [ { users = [ "a" ]; } (mkForce { services.n = { }; }) ]; }`, `c: { config.asserts.a = length c.users == 1; }`, 200)
	f.Add(`let x = mkMerge [ x { } ]; in { config = x; }`, `{ }`, 1000)
	f.Add(`c: { config = c; imports = [ "b" ]; }`, `c: { config.users = c.users; }`, 50)
	f.Add(`{ imports = [ "b" ]; options.a.b = mkOption { type = "attrs lines"; }; config.a = mkOrder 5 { b.x = "1"; }; }`, `c: { config.a.b = mkOverride 100 { x = "2"; y = toString (length (names c)); }; }`, 400)
	f.Fuzz(func(t *testing.T, main, b string, fuel int) {
		l := list("main", main, "b", b)
		a := evaluate(t, l, "main", fuel)
		if again := evaluate(t, list("b", b, "main", main), "main", fuel); a != again {
			t.Fatalf("%+v; the other way round %+v", a, again)
		}
		if fuel < 0 || fuel > 5000 || a.trouble.Err == api.ErrFuel {
			return
		}
		if more := evaluate(t, l, "main", fuel+1+a.steps); a != more {
			t.Fatalf("%+v; with more fuel %+v", a, more)
		}
		if a.steps > 0 {
			if less := evaluate(t, l, "main", a.steps-1); less.trouble.Err != api.ErrFuel || less.steps != a.steps-1 {
				t.Fatalf("%+v; with less fuel %+v", a, less)
			}
		}
	})
}
