package eval

import (
	"slices"

	"bootjack/api"
)

// Shape is a value as far as it is known when it is forced (E2).
type Shape struct {
	Kind  int
	Int   int64
	Float float64
	Text  string
	Names []string
	Items []*Thunk
}

// found is a shape, and of a function what it does. It is never changed once it
// is made, and so others may share its lists.
type found struct {
	Shape
	apply func(x *Thunk) *found
}

func ofBool(is bool) *found {
	if is {
		return ofValue(api.Value{Kind: api.VBool, Int: 1})
	}
	return ofValue(api.Value{Kind: api.VBool})
}

func ofInt(n int64) *found { return ofValue(api.Value{Kind: api.VInt, Int: n}) }

func ofFloat(x float64) *found { return ofValue(api.Value{Kind: api.VFloat, Float: x}) }

func ofText(s string) *found { return ofValue(api.Value{Kind: api.VString, Text: s}) }

func ofList(items []*Thunk) *found { return &found{Shape: Shape{Kind: api.VList, Items: items}} }

// ofSet takes names that rise.
func ofSet(names []string, items []*Thunk) *found {
	return &found{Shape: Shape{Kind: api.VSet, Names: names, Items: items}}
}

func ofFunction(apply func(x *Thunk) *found) *found {
	return &found{Shape: Shape{Kind: api.VFunc}, apply: apply}
}

// ofValue takes a value without its parts.
func ofValue(v api.Value) *found {
	return &found{Shape: Shape{Kind: v.Kind, Int: v.Int, Float: v.Float, Text: v.Text}}
}

// value gives the value without its parts, by which the layer of values knows
// all that it must of a list, a set and a function: their kind.
func (f *found) value() api.Value {
	return api.Value{Kind: f.Kind, Int: f.Int, Float: f.Float, Text: f.Text}
}

func (f *found) isTrue() bool { return f.Int == 1 }

// part gives nil, if it is no set, or has no such name.
func (f *found) part(name string) *Thunk { return pick(f.Names, f.Items, name) }

// pick takes names that rise.
func pick(names []string, items []*Thunk, name string) *Thunk {
	i, has := slices.BinarySearch(names, name)
	if !has {
		return nil
	}
	return items[i]
}

// told gives the shape to a caller, who may write over it.
func (f *found) told() Shape {
	s := f.Shape
	s.Names, s.Items = slices.Clone(s.Names), slices.Clone(s.Items)
	return s
}
