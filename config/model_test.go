package config_test

import (
	"regexp"
	"slices"
	"strings"

	"bootjack/api"
	"bootjack/types"
	"bootjack/units"
)

// thing is something in a module as plain data, of which both its text and what
// it must tell are made. Marks are sets here, as they are in the language.
type thing struct {
	form   string // plain, list, set, ask, zero
	text   string // of a plain one how it is written; the path that is asked for
	call   string // a set that is made by this built-in
	value  api.Value
	names  []string // of a set, rising
	parts  []*thing
	steps  int // that it takes by itself
	module string
	at     int // where the machine tells its fault
	state  int
	shape  *thing // once it is known
}

// Names as the chapter writes them.
var (
	optionName = regexp.MustCompile(`^[A-Za-z0-9_-]+$`)
	fileName   = regexp.MustCompile(`^[a-z0-9._-]{1,30}(/[a-z0-9._-]{1,30})*$`)
	dots       = regexp.MustCompile(`(^|/)\.\.?(/|$)`)
	userName   = regexp.MustCompile(`^[a-z][a-z0-9-]{0,15}$`)
)

// The states of things and of options.
const (
	unknown = iota
	underWay
	known
)

func plain(text string, v api.Value, steps int) *thing {
	return &thing{form: "plain", text: text, value: v, steps: steps}
}

func whole(text string, n int64) *thing {
	return plain(text, api.Value{Kind: api.VInt, Int: n}, 1)
}

func word(s string) *thing {
	return plain(`"`+s+`"`, api.Value{Kind: api.VString, Text: s}, 1)
}

func listOf(l ...*thing) *thing { return &thing{form: "list", parts: l, steps: 1} }

// setOf takes names and things by turns, the names rising.
func setOf(l ...any) *thing {
	x := &thing{form: "set", steps: 1}
	for i := 0; i < len(l); i += 2 {
		x.names, x.parts = append(x.names, l[i].(string)), append(x.parts, l[i+1].(*thing))
	}
	return x
}

// called is a mark that a built-in makes, which knows some of its parts.
func called(call string, steps int, x *thing, knows ...string) *thing {
	x.call, x.steps = call, steps
	for _, name := range append(knows, "_is") {
		p := x.part(name)
		p.state, p.shape = known, p
	}
	return x
}

func (x *thing) part(name string) *thing {
	if i := slices.Index(x.names, name); i >= 0 {
		return x.parts[i]
	}
	return nil
}

// knownOf is a value that is known, with all its parts.
func knownOf(v api.Value) *thing {
	x := &thing{form: "plain", value: v, names: v.Names, state: known}
	switch v.Kind {
	case api.VList:
		x.form = "list"
	case api.VSet:
		x.form = "set"
	}
	for _, item := range v.Items {
		x.parts = append(x.parts, knownOf(item))
	}
	x.shape = x
	return x
}

func (x *thing) kind() int {
	switch x.form {
	case "list":
		return api.VList
	case "set":
		return api.VSet
	}
	return x.value.Kind
}

// wanted is an option as the model knows it.
type wanted struct {
	path, kind string
	preset     *thing // nil: there is none
	state      int
	value      *thing
	setting    api.Value
}

// saying is a module's config.
type saying struct {
	module string
	config *thing
}

// reckoner tells what a configuration must mean, by lists of what is still to be
// gone through. It gives up with a trouble.
type reckoner struct {
	steps   int
	module  string // of the node that is under way
	at      int
	options []*wanted // by rising paths
	says    []saying
	meaning api.Config
}

func (r *reckoner) fail(e api.Errno) {
	panic(api.Trouble{Module: r.module, At: r.at, Err: e})
}

func (r *reckoner) force(x *thing) *thing {
	switch x.state {
	case known:
		return x.shape
	case underWay:
		r.fail(api.ErrLoop)
	}
	x.state = underWay
	r.steps += x.steps
	x.shape = x
	switch x.form {
	case "zero":
		panic(api.Trouble{Module: x.module, At: x.at, Err: api.ErrZero})
	case "ask":
		module, at := r.module, r.at
		r.module, r.at = x.module, x.at
		x.shape = r.option(x.text)
		r.module, r.at = module, at
	}
	x.state = known
	return x.shape
}

func (r *reckoner) forceTo(kind int, x *thing) *thing {
	s := r.force(x)
	if s.kind() != kind {
		r.fail(api.ErrType)
	}
	return s
}

func (r *reckoner) deep(x *thing) api.Value {
	r.steps++
	s := r.force(x)
	if s.form == "plain" {
		return s.value
	}
	v := api.Value{Kind: s.kind(), Names: s.names}
	for _, p := range s.parts {
		v.Items = append(v.Items, r.deep(p))
	}
	return v
}

func (r *reckoner) option(path string) *thing {
	o := r.options[slices.IndexFunc(r.options, func(o *wanted) bool { return o.path == path })]
	switch o.state {
	case known:
		return o.value
	case underWay:
		r.fail(api.ErrLoop)
	}
	o.state = underWay
	v, e := types.Merge(o.kind, r.definitions(o))
	if e != api.OK {
		panic(api.Trouble{Option: path, Err: e})
	}
	o.state, o.value, o.setting = known, knownOf(v), v
	return o.value
}

// task is a thing that is still to be gone through.
type task struct {
	thing           *thing
	names           []string // those that are left, or those that led there
	priority, order int64
}

// marked tells whether a thing is a mark, and what is to be gone through for it.
func (r *reckoner) marked(from task, s *thing) ([]task, bool) {
	if s.form != "set" || s.part("_is") == nil {
		return nil, false
	}
	needs := map[string][]string{"if": {"when", "value"}, "override": {"rank", "value"}, "order": {"rank", "value"}, "merge": {"values"}}
	is := r.forceTo(api.VString, s.part("_is")).value.Text
	if needs[is] == nil {
		r.fail(api.ErrType)
	}
	for _, name := range needs[is] {
		if s.part(name) == nil {
			r.fail(api.ErrType)
		}
	}
	var l []task
	next := from
	next.thing = s.part("value")
	switch is {
	case "if":
		if r.forceTo(api.VBool, s.part("when")).value.Int == 0 {
			return nil, true
		}
	case "override":
		next.priority = r.forceTo(api.VInt, s.part("rank")).value.Int
	case "order":
		next.order = r.forceTo(api.VInt, s.part("rank")).value.Int
	case "merge":
		for _, p := range r.forceTo(api.VList, s.part("values")).parts {
			l = append(l, task{p, from.names, from.priority, from.order})
		}
		return l, true
	}
	return []task{next}, true
}

func (r *reckoner) definitions(o *wanted) (defs []api.Def) {
	if o.preset != nil {
		defs = append(defs, api.Def{Value: r.deep(o.preset), Priority: 1500, Order: 1000})
	}
	var agenda []task
	for _, s := range r.says {
		agenda = append(agenda, task{s.config, strings.Split(o.path, "."), 100, 1000})
	}
	for len(agenda) > 0 {
		next := agenda[0]
		agenda = agenda[1:]
		r.steps++
		s := r.force(next.thing)
		if l, is := r.marked(next, s); is {
			agenda = append(l, agenda...)
			continue
		}
		if len(next.names) == 0 {
			defs = append(defs, api.Def{Value: r.deep(next.thing), Priority: next.priority, Order: next.order})
			continue
		}
		if s.form != "set" {
			r.fail(api.ErrType)
		}
		if p := s.part(next.names[0]); p != nil {
			agenda = append([]task{{p, next.names[1:], next.priority, next.order}}, agenda...)
		}
	}
	return defs
}

func (r *reckoner) check(said saying) {
	agenda := []task{{thing: said.config}}
	for len(agenda) > 0 {
		next := agenda[0]
		agenda = agenda[1:]
		if len(next.names) > 0 {
			path := strings.Join(next.names, ".")
			of := func(o *wanted) bool { return o.path == path || strings.HasPrefix(o.path, path+".") }
			i := slices.IndexFunc(r.options, of)
			if !optionName.MatchString(next.names[len(next.names)-1]) || i < 0 {
				panic(api.Trouble{Module: said.module, Option: path, Err: api.ErrOption})
			}
			if r.options[i].path == path {
				continue
			}
		}
		agenda = append(r.checked(next), agenda...)
	}
}

// checked goes through marks, and gives what stands in the sets behind them.
func (r *reckoner) checked(from task) (inner []task) {
	r.steps++
	s := r.force(from.thing)
	if l, is := r.marked(from, s); is {
		return l
	}
	if s.form != "set" {
		panic(api.Trouble{Err: api.ErrType})
	}
	for i, name := range s.names {
		inner = append(inner, task{thing: s.parts[i], names: append(slices.Clone(from.names), name)})
	}
	return inner
}

// reckon tells the answer, of modules that Load has taken so many steps for.
func (r *reckoner) reckon() (a answer) {
	defer func() {
		if p := recover(); p != nil {
			a = answer{steps: r.steps, trouble: p.(api.Trouble)}
		}
	}()
	for _, o := range r.options {
		r.option(o.path)
		r.meaning.Settings = append(r.meaning.Settings, api.Setting{Path: o.path, Value: o.setting})
	}
	for _, s := range r.says {
		r.check(s)
	}
	r.parts()
	return answer{meaning: written(r.meaning), steps: r.steps}
}

func (r *reckoner) setting(path string) api.Value {
	return r.meaning.Settings[slices.IndexFunc(r.meaning.Settings, func(s api.Setting) bool { return s.Path == path })].Value
}

func (r *reckoner) parts() {
	fail := func(option string, e api.Errno) { panic(api.Trouble{Option: option, Err: e}) }
	for i, name := range r.setting("asserts").Names {
		if r.setting("asserts").Items[i].Int == 0 {
			fail("asserts."+name, api.ErrAssert)
		}
	}
	files := r.setting("files")
	if len(files.Names) > 24 {
		fail("files", api.ErrMany)
	}
	for i, name := range files.Names {
		isRight := fileName.MatchString(name) && !dots.MatchString(name) && len(name) <= 60
		if !isRight || strings.Contains("\n"+strings.Join(files.Names, "\n"), "\n"+name+"/") {
			fail("files."+name, api.ErrPath)
		}
		r.meaning.Files = append(r.meaning.Files, api.Pair{Name: name, Text: files.Items[i].Text})
	}
	users := map[string]int{}
	for _, u := range r.setting("users").Items {
		if !userName.MatchString(u.Text) {
			fail("users", api.ErrPath)
		}
		users[u.Text]++
	}
	for u := range users {
		r.meaning.Users = append(r.meaning.Users, u)
	}
	slices.Sort(r.meaning.Users)
	if len(users) > 16 {
		fail("users", api.ErrMany)
	}
	r.units(fail)
}

func (r *reckoner) units(fail func(string, api.Errno)) {
	services := r.setting("services")
	if len(services.Names) > 24 {
		fail("services", api.ErrMany)
	}
	var l []api.Unit
	for i, name := range services.Names {
		if !userName.MatchString(name) {
			fail("services."+name, api.ErrPath)
		}
		u := api.Unit{Name: name, Start: services.Items[i].Items[2].Text}
		for _, x := range services.Items[i].Items[0].Items {
			u.After = append(u.After, x.Text)
		}
		for _, x := range services.Items[i].Items[1].Items {
			u.Requires = append(u.Requires, x.Text)
		}
		l = append(l, u)
	}
	l, name, e := units.Order(l)
	if e != api.OK {
		fail("services."+name, e)
	}
	r.meaning.Units = l
}
