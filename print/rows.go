package print

import "bootjack/api"

// row is one of those by which an expression is read, from the loosest to the
// closest.
type row int

const (
	rowExpr row = iota
	rowOr
	rowAnd
	rowEq
	rowCmp
	rowUpd
	rowNot
	rowAdd
	rowMul
	rowCat
	rowNeg
	rowHas
	rowCall
	rowSel
	rowAtom
)

// rowOf gives the row that makes a node.
func rowOf(n api.Node) row {
	switch n.Kind {
	case api.NLambda, api.NLet, api.NWith, api.NIf, api.NAssert:
		return rowExpr
	case api.NBinary:
		return rowOfSign(n.Text)
	case api.NNot:
		return rowNot
	case api.NNeg:
		return rowNeg
	case api.NHas:
		return rowHas
	case api.NCall:
		return rowCall
	case api.NSelect:
		return rowSel
	}
	return rowAtom
}

// rowOfSign gives the row that has a sign between two parts; rowExpr has none,
// and stands for what is no such sign.
func rowOfSign(sign string) row {
	switch sign {
	case "||":
		return rowOr
	case "&&":
		return rowAnd
	case "==", "!=":
		return rowEq
	case "<", "<=", ">", ">=":
		return rowCmp
	case "//":
		return rowUpd
	case "+", "-":
		return rowAdd
	case "*", "/":
		return rowMul
	case "++":
		return rowCat
	}
	return rowExpr
}

// sides gives the rows of the places left and right of a sign.
func sides(sign string) (left, right row) {
	own := rowOfSign(sign)
	switch own {
	case rowEq, rowCmp:
		return own + 1, own + 1
	case rowUpd, rowCat:
		return own + 1, own
	}
	return own, own + 1
}
