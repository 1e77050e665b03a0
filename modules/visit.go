package modules

import (
	"errors"
	"slices"

	"bootjack/api"
	"bootjack/eval"
	"bootjack/parse"
)

const maxNameBytes = 32

// checkNames refuses modules that can't be told apart by their names.
func checkNames(l []api.Module) error {
	if len(l) > api.MaxModules {
		return trouble("", api.ErrMany)
	}
	for i, m := range l {
		if !isModuleName(m.Name) || find(l[:i], m.Name) >= 0 {
			return trouble(m.Name, api.ErrArg)
		}
	}
	return nil
}

func isModuleName(s string) bool {
	return s != "" && len(s) <= maxNameBytes && !slices.ContainsFunc([]byte(s), isUnseen)
}

// isUnseen tells whether a byte could not be seen in a line.
func isUnseen(c byte) bool { return c < 33 || c > 126 }

func find(l []api.Module, name string) int {
	return slices.IndexFunc(l, func(m api.Module) bool { return m.Name == name })
}

// visitor goes through modules as they ask for one another. What it has beside
// the system is not needed any more when all are looked at.
type visitor struct {
	*System
	given    []api.Module
	handed   *eval.Thunk // what a module that is a function is called with
	declared []declaration
}

// declaration is what a module has under `options`.
type declaration struct {
	module  string
	options *eval.Thunk
}

// visit reads a module, and those that it asks for. It is in the order ahead of
// them, and so modules that ask for one another come to an end.
func (v *visitor) visit(name, asker string) error {
	if v.isVisited(name) {
		return nil
	}
	at := find(v.given, name)
	if at < 0 {
		return trouble(asker, api.ErrImport)
	}
	set, err := v.read(v.given[at])
	if err != nil {
		return err
	}
	v.add(name, set)
	imports, err := v.imports(name, set)
	if err != nil {
		return err
	}
	for _, other := range imports {
		if err := v.visit(other, name); err != nil {
			return err
		}
	}
	return nil
}

func (v *visitor) isVisited(name string) bool {
	return slices.ContainsFunc(v.modules, func(m module) bool { return m.name == name })
}

func (v *visitor) add(name string, set eval.Shape) {
	v.modules = append(v.modules, module{name, part(set, "config")})
	if options := part(set, "options"); options != nil {
		v.declared = append(v.declared, declaration{name, options})
	}
}

// part gives nil, if a set has no such name.
func part(set eval.Shape, name string) *eval.Thunk {
	i, has := slices.BinarySearch(set.Names, name)
	if !has {
		return nil
	}
	return set.Items[i]
}

// read gives the set that a module's text means.
func (v *visitor) read(m api.Module) (eval.Shape, error) {
	f, err := parse.Parse(m.Text)
	if err != nil {
		return eval.Shape{}, placed(m.Name, err)
	}
	x, err := v.meaning(v.machine.Load(m.Name, f))
	if err != nil {
		return eval.Shape{}, err
	}
	if x.Kind != api.VSet || slices.ContainsFunc(x.Names, isNoPart) {
		return eval.Shape{}, trouble(m.Name, api.ErrModule)
	}
	return x, nil
}

// placed tells a text's fault with the module whose text it is.
func placed(module string, err error) error {
	var f *api.Fault
	errors.As(err, &f)
	return &api.Trouble{Module: module, At: f.At, Err: f.Err}
}

func (v *visitor) meaning(t *eval.Thunk) (eval.Shape, error) {
	x, err := v.machine.Force(t)
	if err != nil || x.Kind != api.VFunc {
		return x, err
	}
	return v.machine.Force(v.machine.Call(t, v.handed))
}

func isNoPart(name string) bool {
	return name != "imports" && name != "options" && name != "config"
}

// imports gives the names of the modules that a module asks for.
func (v *visitor) imports(name string, set eval.Shape) ([]string, error) {
	t := part(set, "imports")
	if t == nil {
		return nil, nil
	}
	l, err := v.forceTo(api.VList, name, t)
	if err != nil {
		return nil, err
	}
	var names []string
	for _, item := range l.Items {
		x, err := v.forceTo(api.VString, name, item)
		if err != nil {
			return nil, err
		}
		names = append(names, x.Text)
	}
	return names, nil
}

// forceTo refuses something of another kind in a module.
func (v *visitor) forceTo(kind int, module string, t *eval.Thunk) (eval.Shape, error) {
	x, err := v.machine.Force(t)
	if err == nil && x.Kind != kind {
		err = trouble(module, api.ErrModule)
	}
	return x, err
}
