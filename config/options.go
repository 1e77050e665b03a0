package config

import (
	"slices"
	"strings"

	"bootjack/api"
	"bootjack/eval"
	"bootjack/modules"
	"bootjack/types"
)

// What definitions have, where no mark says otherwise.
const (
	usualPriority  = 100
	presetPriority = 1500 // of an option's default
	usualOrder     = 1000
)

// option is one with the names of its path. Its thunk leaves the value here when
// it is found: to tell it from the thunk would take steps.
type option struct {
	modules.Option
	names []string
	thunk *eval.Thunk
	value api.Value
}

func (e *evaluator) newOption(from modules.Option) *option {
	o := &option{Option: from, names: strings.Split(from.Path, ".")}
	o.thunk = e.Machine().Later(func() (*eval.Thunk, error) {
		v, err := e.merged(o)
		if err != nil {
			return nil, err
		}
		o.value = v
		return e.Machine().Put(v), nil
	})
	return o
}

// merged tells what an option's definitions make together.
func (e *evaluator) merged(o *option) (api.Value, error) {
	defs, err := e.definitions(o)
	if err != nil {
		return api.Value{}, err
	}
	v, failed := types.Merge(o.Type, defs)
	if failed != api.OK {
		return api.Value{}, ofOption(o.Path, failed)
	}
	return v, nil
}

func (e *evaluator) definitions(o *option) ([]api.Def, error) {
	f := &finder{evaluator: e}
	if t, has := e.Default(o.Path); has {
		if err := f.define(spot{t, presetPriority, usualOrder}); err != nil {
			return nil, err
		}
	}
	for _, t := range e.configs() {
		if err := f.find(spot{t, usualPriority, usualOrder}, o.names); err != nil {
			return nil, err
		}
	}
	return f.defs, nil
}

// config makes the set of sets in which options' values stand. Paths rise as
// texts, in which a `-` stands ahead of the `.` behind a name; names must rise
// by themselves.
func (e *evaluator) config() *eval.Thunk {
	l := slices.Clone(e.options)
	slices.SortFunc(l, func(a, b *option) int { return slices.Compare(a.names, b.names) })
	return e.setOf(l, 0)
}

// setOf makes the set of options that have the same first names, so many, and
// others behind them.
func (e *evaluator) setOf(l []*option, deep int) *eval.Thunk {
	var names []string
	var items []*eval.Thunk
	for len(l) > 0 {
		name := l[0].names[deep]
		n := 1
		for n < len(l) && l[n].names[deep] == name {
			n++
		}
		names, items = append(names, name), append(items, e.itemOf(l[:n], deep+1))
		l = l[n:]
	}
	return e.Machine().Set(names, items)
}

// itemOf takes one option whose names end here, or some whose names go on.
func (e *evaluator) itemOf(l []*option, deep int) *eval.Thunk {
	if len(l[0].names) == deep {
		return l[0].thunk
	}
	return e.setOf(l, deep)
}

// setOptions finds the values of all options.
func (e *evaluator) setOptions() error {
	for _, o := range e.options {
		if _, err := e.Machine().Force(o.thunk); err != nil {
			return err
		}
		e.meaning.Settings = append(e.meaning.Settings, api.Setting{Path: o.Path, Value: o.value})
	}
	return nil
}

// setting gives the value of an option that there is, once all are set.
func (e *evaluator) setting(path string) api.Value {
	i := slices.IndexFunc(e.options, func(o *option) bool { return o.Path == path })
	return e.options[i].value
}
