package eval

import (
	"math"
	"slices"

	"bootjack/api"
)

// builtin is a function that the language has: how many thunks it wants, and
// what it does with them.
type builtin struct {
	name  string
	wants int
	run   func(x []*Thunk) *found
}

func (m *Machine) functions() []builtin {
	return []builtin{
		{"length", 1, m.length},
		{"head", 1, m.head},
		{"tail", 1, m.tail},
		{"item", 2, m.item},
		{"map", 2, m.mapped},
		{"filter", 2, m.filtered},
		{"fold", 3, m.folded},
		{"elem", 2, m.elem},
		{"names", 1, m.names},
		{"values", 1, m.values},
		{"has", 2, m.has},
		{"get", 2, m.get},
		{"join", 2, m.join},
		{"toString", 1, m.toString},
		{"toInt", 1, m.toInt},
		{"toFloat", 1, m.toFloat},
		{"typeOf", 1, m.typeOf},
		{"throw", 1, m.throw},
		{"seq", 2, m.seq},
		{"mkIf", 2, mkIf},
		{"mkOverride", 2, mkOverride},
		{"mkOrder", 2, mkOrder},
		{"mkForce", 1, mkForce},
		{"mkDefault", 1, mkDefault},
		{"mkMerge", 1, mkMerge},
		{"mkOption", 1, m.mkOption},
	}
}

func (m *Machine) allBuiltins() map[string]*Thunk {
	all := map[string]*Thunk{
		"true":  known(ofBool(true)),
		"false": known(ofBool(false)),
		"null":  known(ofValue(api.Value{Kind: api.VNull})),
		"nan":   known(ofFloat(math.NaN())),
		"inf":   known(ofFloat(math.Inf(1))),
	}
	for _, b := range m.functions() {
		all[b.name] = known(m.wanting(b, nil))
	}
	return all
}

// wanting gives a built-in that has some of what it wants. Each call makes a
// list of its own: one that has a part may be called more than once.
func (m *Machine) wanting(b builtin, has []*Thunk) *found {
	return ofFunction(func(x *Thunk) *found {
		all := append(slices.Clone(has), x)
		if len(all) < b.wants {
			return m.wanting(b, all)
		}
		return m.ran(b, all)
	})
}

func (m *Machine) ran(b builtin, x []*Thunk) *found {
	was := m.now
	m.begin()
	f := b.run(x)
	m.now = was
	return f
}
