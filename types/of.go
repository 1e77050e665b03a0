package types

import (
	"slices"

	"bootjack/api"
	"bootjack/value"
)

// Of tells whether a value is of a type (T2).
func Of(t string, v api.Value) bool {
	k := read(t)
	return k != nil && value.Right(v) && k.takes(v)
}

// takes tells whether a right value is of the type.
func (k *kind) takes(v api.Value) bool {
	switch k.word {
	case "bool":
		return v.Kind == api.VBool
	case "float":
		return v.Kind == api.VFloat || v.Kind == api.VInt
	case "string", "lines":
		return v.Kind == api.VString
	case "int":
		return v.Kind == api.VInt && k.low <= v.Int && v.Int <= k.high
	case "enum":
		return v.Kind == api.VString && slices.Contains(k.choices, v.Text)
	case "list":
		return v.Kind == api.VList && k.items.takesAll(v.Items)
	case "attrs":
		return v.Kind == api.VSet && k.items.takesAll(v.Items)
	}
	return v.Kind == api.VSet && areParts(v)
}

func (k *kind) takesAll(l []api.Value) bool {
	for _, v := range l {
		if !k.takes(v) {
			return false
		}
	}
	return true
}

// areParts tells whether all that a set has may stand in a unit.
func areParts(v api.Value) bool {
	for i, name := range v.Names {
		k := partOf(name)
		if k == nil || !k.takes(v.Items[i]) {
			return false
		}
	}
	return true
}

// partOf gives the type of what stands under a unit's name, nil of another name.
func partOf(name string) *kind {
	switch name {
	case "start":
		return &kind{word: "string"}
	case "after", "requires":
		return &kind{word: "list", items: &kind{word: "string"}}
	}
	return nil
}
