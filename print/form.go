package print

import (
	"strconv"

	"bootjack/api"
	"bootjack/value"
)

// part is a piece of what a node is written as: a string, which is written as
// it is, an attribute, a binding or a place.
type part any

// attribute is an attribute's name.
type attribute string

// binding is a name and the node that is its value.
type binding struct {
	name  string
	value int
}

// place is a node, and the row that may stand there without brackets.
type place struct {
	node int
	row  row
}

// form gives the pieces of a node.
func (w *writer) form(n api.Node) []part {
	switch n.Kind {
	case api.NInt:
		return []part{strconv.FormatInt(n.Int, 10)}
	case api.NFloat:
		return []part{value.Float(n.Float)}
	case api.NString:
		return []part{quoted(n.Text)}
	case api.NName:
		return []part{n.Text}
	case api.NList:
		return listForm(n)
	case api.NSet:
		return boundForm("{ ", n, "}")
	case api.NRec:
		return boundForm("rec { ", n, "}")
	case api.NSelect:
		return w.selectForm(n)
	case api.NHas:
		return []part{place{n.Kids[0], rowCall}, " ? ", attribute(n.Text)}
	case api.NCall:
		return []part{place{n.Kids[0], rowCall}, " ", place{n.Kids[1], rowSel}}
	case api.NNot:
		return []part{"!", place{n.Kids[0], rowNot}}
	case api.NNeg:
		return []part{"-", place{n.Kids[0], rowNeg}}
	case api.NBinary:
		left, right := sides(n.Text)
		return []part{place{n.Kids[0], left}, " " + n.Text + " ", place{n.Kids[1], right}}
	}
	return exprForm(n)
}

// exprForm gives the pieces of what stands in the loosest row.
func exprForm(n api.Node) []part {
	free := func(i int) place { return place{n.Kids[i], rowExpr} }
	switch n.Kind {
	case api.NLambda:
		return []part{n.Text + ": ", free(0)}
	case api.NWith:
		return []part{"with ", free(0), "; ", free(1)}
	case api.NAssert:
		return []part{"assert ", free(0), "; ", free(1)}
	case api.NIf:
		return []part{"if ", free(0), " then ", free(1), " else ", free(2)}
	}
	return append(boundForm("let ", n, "in "), free(len(n.Names)))
}

func listForm(n api.Node) []part {
	l := []part{"["}
	for _, k := range n.Kids {
		l = append(l, " ", place{k, rowSel})
	}
	return append(l, " ]")
}

// boundForm gives bindings, and what stands ahead of them and behind.
func boundForm(ahead string, n api.Node, behind string) []part {
	l := []part{ahead}
	for i, name := range n.Names {
		l = append(l, binding{name, n.Kids[i]})
	}
	return append(l, behind)
}

func (w *writer) selectForm(n api.Node) []part {
	l := []part{place{n.Kids[0], w.rowOfSelected(n.Kids[0])}, ".", attribute(n.Text)}
	if len(n.Kids) == 2 {
		l = append(l, " or ", place{n.Kids[1], rowSel})
	}
	return l
}

// rowOfSelected gives the row of the place ahead of a `.`: what is else would
// take a further attribute for its own.
func (w *writer) rowOfSelected(set int) row {
	if n := w.nodes[set]; n.Kind == api.NSelect && len(n.Kids) == 2 {
		return rowAtom
	}
	return rowSel
}

// quoted writes a text as a string, as values are shown.
func quoted(s string) string {
	return value.Show(api.Value{Kind: api.VString, Text: s})
}
