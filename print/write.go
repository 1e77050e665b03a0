package print

import (
	"strings"

	"bootjack/api"
)

// writer writes nodes that are right.
type writer struct {
	nodes []api.Node
	text  strings.Builder
}

func (w *writer) write(l ...part) {
	for _, p := range l {
		switch p := p.(type) {
		case string:
			w.text.WriteString(p)
		case attribute:
			w.attribute(string(p))
		case binding:
			w.binding(p)
		case place:
			w.place(p)
		}
	}
}

// place writes a node in brackets just where its row could not be read.
func (w *writer) place(p place) {
	n := w.nodes[p.node]
	if rowOf(n) >= p.row {
		w.write(w.form(n)...)
		return
	}
	w.write("(", place{p.node, rowExpr}, ")")
}

func (w *writer) attribute(name string) {
	if !isName(name) {
		name = quoted(name)
	}
	w.write(name)
}

func (w *writer) binding(b binding) {
	if w.nodes[b.value].Kind == api.NInherit {
		w.write("inherit ", b.name, "; ")
		return
	}
	w.write(attribute(b.name), " = ", place{b.value, rowExpr}, "; ")
}
