package print

import (
	"math"
	"slices"

	"bootjack/api"
	"bootjack/parse"
)

// Right tells whether nodes are an expression (Q1).
func Right(f []api.Node) bool {
	if len(f) > api.MaxNodes || !inOrder(f) {
		return false
	}
	for _, n := range f {
		if !rightNode(n) {
			return false
		}
	}
	return rightInherits(f)
}

// inOrder tells whether the kids of each node are the last ones ahead of it
// that no other node has, and whether only the last node is no one's kid. Then
// all kids are numbers of nodes.
func inOrder(f []api.Node) bool {
	var free []int
	for i, n := range f {
		rest := len(free) - len(n.Kids)
		if rest < 0 || !slices.Equal(free[rest:], n.Kids) {
			return false
		}
		free = append(free[:rest], i)
	}
	return len(free) == 1
}

// rightNode tells whether a node has just what its kind says, but for where its
// kids stand.
func rightNode(n api.Node) bool {
	return rightKids(n) && rightNumbers(n) && rightText(n) && rightNames(n)
}

func rightKids(n api.Node) bool {
	kids := len(n.Kids)
	switch n.Kind {
	case api.NInt, api.NFloat, api.NString, api.NName, api.NInherit:
		return kids == 0
	case api.NList:
		return true
	case api.NSet, api.NRec:
		return kids == len(n.Names)
	case api.NLet:
		return kids == len(n.Names)+1
	case api.NSelect:
		return kids == 1 || kids == 2
	case api.NHas, api.NLambda, api.NNot, api.NNeg:
		return kids == 1
	case api.NCall, api.NWith, api.NAssert, api.NBinary:
		return kids == 2
	case api.NIf:
		return kids == 3
	}
	return false
}

// rightNumbers holds a float against 0 by its bits, for -0 is none that a text
// could say.
func rightNumbers(n api.Node) bool {
	if n.Int != 0 && (n.Kind != api.NInt || n.Int < 0) {
		return false
	}
	if math.Float64bits(n.Float) == 0 {
		return true
	}
	return n.Kind == api.NFloat && n.Float > 0 && !math.IsInf(n.Float, 0)
}

func rightText(n api.Node) bool {
	switch n.Kind {
	case api.NString, api.NSelect, api.NHas:
		return canBeString(n.Text)
	case api.NName, api.NLambda, api.NInherit:
		return isName(n.Text)
	case api.NBinary:
		return rowOfSign(n.Text) != rowExpr
	}
	return n.Text == ""
}

func rightNames(n api.Node) bool {
	switch n.Kind {
	case api.NSet, api.NRec, api.NLet:
		return allDiffer(n.Names) && allCanBeStrings(n.Names)
	}
	return len(n.Names) == 0
}

func allDiffer(names []string) bool {
	l := slices.Sorted(slices.Values(names))
	return len(slices.Compact(l)) == len(names)
}

// rightInherits tells whether each NInherit is a value under its own name. A
// let's body has no name, and so it is none.
func rightInherits(f []api.Node) bool {
	for _, n := range f {
		for i, k := range n.Kids {
			if f[k].Kind == api.NInherit && !(i < len(n.Names) && n.Names[i] == f[k].Text) {
				return false
			}
		}
	}
	return f[len(f)-1].Kind != api.NInherit
}

func allCanBeStrings(l []string) bool {
	for _, s := range l {
		if !canBeString(s) {
			return false
		}
	}
	return true
}

// canBeString tells whether a text is one that a string may stand for.
func canBeString(s string) bool {
	return len(s) <= api.MaxString && !slices.ContainsFunc([]byte(s), isForbidden)
}

func isForbidden(c byte) bool {
	return c < 32 && c != '\t' && c != '\n' || c == 127
}

// isName asks the parser, which knows the keywords. A text that has more than
// the name, blanks or brackets, is no name, though it is read as one.
func isName(s string) bool {
	f, err := parse.Parse(s)
	return err == nil && len(f) == 1 && f[0].Kind == api.NName && f[0].Text == s
}
