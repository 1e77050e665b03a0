package config

import (
	"slices"
	"strings"

	"bootjack/api"
	"bootjack/eval"
)

// checkModules looks for what modules define and nobody has declared.
func (e *evaluator) checkModules() error {
	for module, t := range e.configs() {
		if err := e.check(module, nil, t); err != nil {
			return err
		}
	}
	return nil
}

// check takes the names that led to a thunk, which are no option's path.
func (e *evaluator) check(module string, names []string, t *eval.Thunk) error {
	return e.follow(spot{thunk: t}, func(_ spot, x eval.Shape) error {
		if x.Kind != api.VSet {
			return &api.Trouble{Err: api.ErrType}
		}
		for i, name := range x.Names {
			if err := e.checkName(module, slices.Concat(names, []string{name}), x.Items[i]); err != nil {
				return err
			}
		}
		return nil
	})
}

// checkName holds names against those of options, name by name: one that is
// empty, or has a byte that may not be, is none of theirs.
func (e *evaluator) checkName(module string, names []string, t *eval.Thunk) error {
	i := slices.IndexFunc(e.options, func(o *option) bool { return isBeginning(names, o.names) })
	if i < 0 {
		return &api.Trouble{Module: module, Option: strings.Join(names, "."), Err: api.ErrOption}
	}
	if len(names) == len(e.options[i].names) {
		return nil
	}
	return e.check(module, names, t)
}

func isBeginning(short, long []string) bool {
	return len(short) <= len(long) && slices.Equal(short, long[:len(short)])
}
