package config

import (
	"slices"

	"bootjack/api"
	"bootjack/eval"
)

// spot is a thunk in which definitions stand, and what they have by the marks
// that led there.
type spot struct {
	thunk           *eval.Thunk
	priority, order int64
}

func (at spot) to(t *eval.Thunk) spot { return spot{t, at.priority, at.order} }

// plain is what is done with a thunk that has no mark, once its shape is known.
type plain func(at spot, x eval.Shape) error

// follow does so with each thunk that marks lead to, from the front.
func (e *evaluator) follow(at spot, do plain) error {
	if err := e.Machine().Step(); err != nil {
		return err
	}
	x, err := e.Machine().Force(at.thunk)
	if err != nil {
		return err
	}
	mark := part(x, "_is")
	if mark == nil {
		return do(at, x)
	}
	at, inner, err := e.within(at, mark, x)
	if err != nil {
		return err
	}
	for _, t := range inner {
		if err := e.follow(at.to(t), do); err != nil {
			return err
		}
	}
	return nil
}

// part gives nil, if it is no set, or has no such name.
func part(x eval.Shape, name string) *eval.Thunk {
	i, has := slices.BinarySearch(x.Names, name)
	if !has {
		return nil
	}
	return x.Items[i]
}

// within gives the thunks that a mark leads to, and what definitions have there.
func (e *evaluator) within(at spot, mark *eval.Thunk, set eval.Shape) (spot, []*eval.Thunk, error) {
	is, err := e.forceTo(api.VString, mark)
	if err != nil {
		return at, nil, err
	}
	inner := []*eval.Thunk{part(set, "value")}
	switch is.Text {
	case "if":
		when, err := e.asked(set, api.VBool, "when", "value")
		if when.Int == 0 {
			inner = nil
		}
		return at, inner, err
	case "override":
		rank, err := e.asked(set, api.VInt, "rank", "value")
		at.priority = rank.Int
		return at, inner, err
	case "order":
		rank, err := e.asked(set, api.VInt, "rank", "value")
		at.order = rank.Int
		return at, inner, err
	case "merge":
		values, err := e.asked(set, api.VList, "values")
		return at, values.Items, err
	}
	return at, nil, e.Machine().Fail(api.ErrType)
}

// asked forces what a mark has under the first of the names that it needs. That
// it has all of them is looked at ahead of that.
func (e *evaluator) asked(set eval.Shape, kind int, names ...string) (eval.Shape, error) {
	for _, name := range names {
		if part(set, name) == nil {
			return eval.Shape{}, e.Machine().Fail(api.ErrType)
		}
	}
	return e.forceTo(kind, part(set, names[0]))
}

// forceTo refuses something of another kind.
func (e *evaluator) forceTo(kind int, t *eval.Thunk) (eval.Shape, error) {
	x, err := e.Machine().Force(t)
	if err != nil {
		return eval.Shape{}, err
	}
	if x.Kind != kind {
		return eval.Shape{}, e.Machine().Fail(api.ErrType)
	}
	return x, nil
}
