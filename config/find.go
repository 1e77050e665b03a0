package config

import (
	"bootjack/api"
	"bootjack/eval"
)

// finder gathers the definitions of an option.
type finder struct {
	*evaluator
	defs []api.Def
}

// find goes on by the names that are left of the option's path.
func (f *finder) find(at spot, names []string) error {
	return f.follow(at, func(at spot, x eval.Shape) error {
		if len(names) == 0 {
			return f.define(at)
		}
		if x.Kind != api.VSet {
			return f.Machine().Fail(api.ErrType)
		}
		inner := part(x, names[0])
		if inner == nil {
			return nil
		}
		return f.find(at.to(inner), names[1:])
	})
}

// define takes all that stands in a thunk as one definition.
func (f *finder) define(at spot) error {
	v, err := f.Machine().Deep(at.thunk)
	if err != nil {
		return err
	}
	f.defs = append(f.defs, api.Def{Value: v, Priority: at.priority, Order: at.order})
	return nil
}
