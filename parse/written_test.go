package parse_test

import (
	"math/rand/v2"
	"slices"
	"strconv"
	"strings"
	"testing"

	"bootjack/api"
)

// The writer makes expressions by chance, writes each of them down, with brackets where the rows ask for them, and blanks and more brackets by chance; while it writes it notes where each node is At. So it knows the nodes without reading anything.

type writer struct {
	r    *rand.Rand
	text strings.Builder
	at   int // where the token begins that was written last
}

// token writes one, with blanks or a remark ahead of it.
func (w *writer) token(s string) int {
	w.text.WriteString(pick(w.r, " ", " ", "  ", "\n", "\t", " # ( remark\n", "\r\n"))
	w.at = w.text.Len()
	w.text.WriteString(s)
	return w.at
}

// rowMaking gives the row that makes it.
func rowMaking(x *expr) int {
	switch x.node.Kind {
	case api.NLambda, api.NLet, api.NWith, api.NIf, api.NAssert:
		return 0
	case api.NBinary:
		return rowOf[x.node.Text]
	case api.NNot:
		return 6
	case api.NNeg:
		return 10
	case api.NHas:
		return 11
	case api.NCall:
		return 12
	case api.NSelect:
		return 13
	}
	return 14
}

// write writes x at a place where the table has a row.
func (w *writer) write(x *expr, row int) {
	if rowMaking(x) >= row && w.r.IntN(10) > 0 {
		w.bare(x)
		return
	}
	w.token("(")
	w.write(x, 0)
	w.token(")")
}

func (w *writer) bare(x *expr) {
	n := &x.node
	switch n.Kind {
	case api.NInt:
		n.At = w.token(strconv.FormatInt(n.Int, 10))
	case api.NFloat:
		n.At = w.token(strconv.FormatFloat(n.Float, 'f', 3, 64))
	case api.NString:
		n.At = w.token(quoted(n.Text))
	case api.NName:
		n.At = w.token(n.Text)
	case api.NList:
		n.At = w.token("[")
		for _, k := range x.kids {
			w.write(k, 13)
		}
		w.token("]")
	case api.NSet, api.NRec:
		if n.Kind == api.NRec {
			n.At = w.token("rec")
			w.token("{")
		} else {
			n.At = w.token("{")
		}
		w.bindings(x)
		w.token("}")
	case api.NNot, api.NNeg:
		n.At = w.token(map[int]string{api.NNot: "!", api.NNeg: "-"}[n.Kind])
		w.write(x.kids[0], rowMaking(x))
	case api.NBinary:
		w.binary(x)
	case api.NHas:
		w.write(x.kids[0], 12)
		n.At = w.token("?")
		w.attribute(n.Text)
	case api.NCall:
		w.write(x.kids[0], 12)
		n.At = x.kids[0].node.At
		w.write(x.kids[1], 13)
	case api.NSelect:
		w.selected(x)
	default:
		w.worded(x)
	}
}

func (w *writer) binary(x *expr) {
	row := rowOf[x.node.Text]
	left, right := row, row+1
	switch row {
	case 3, 4:
		left = row + 1
	case 5, 9:
		left, right = row+1, row
	}
	w.write(x.kids[0], left)
	x.node.At = w.token(x.node.Text)
	w.write(x.kids[1], right)
}

func (w *writer) selected(x *expr) {
	set := 13
	if k := x.kids[0]; k.node.Kind == api.NSelect && len(k.kids) == 2 {
		set = 14 // what is else would take the attribute
	}
	w.write(x.kids[0], set)
	x.node.At = w.token(".")
	w.attribute(x.node.Text)
	if len(x.kids) == 2 {
		w.token("or")
		w.write(x.kids[1], 13)
	}
}

func (w *writer) worded(x *expr) {
	n := &x.node
	switch n.Kind {
	case api.NLambda:
		n.At = w.token(n.Text)
		w.token(":")
		w.write(x.kids[0], 0)
	case api.NLet:
		n.At = w.token("let")
		w.bindings(x)
		w.token("in")
		w.write(x.kids[len(x.kids)-1], 0)
	case api.NWith, api.NAssert:
		n.At = w.token(map[int]string{api.NWith: "with", api.NAssert: "assert"}[n.Kind])
		w.write(x.kids[0], 0)
		w.token(";")
		w.write(x.kids[1], 0)
	case api.NIf:
		n.At = w.token("if")
		w.write(x.kids[0], 0)
		w.token("then")
		w.write(x.kids[1], 0)
		w.token("else")
		w.write(x.kids[2], 0)
	}
}

func quoted(s string) string {
	return `"` + strings.NewReplacer("\n", `\n`, `"`, `\"`, `\`, `\\`).Replace(s) + `"`
}

func (w *writer) attribute(name string) int {
	plain := name != "" && strings.Trim(name, "abcdefghijklmnopqrstuvwxyz") == "" && !slices.Contains([]string{"let", "or", "in"}, name)
	if plain && w.r.IntN(3) > 0 {
		return w.token(name)
	}
	return w.token(quoted(name))
}

// line is a binding that is yet to be written: the sets that paths make on its way, the path, and the value.
type line struct {
	through []*expr
	path    []string
	value   *expr
}

// lines gives the bindings that write x's names, of each name its own.
func lines(x *expr) [][]line {
	var l [][]line
	for i, name := range x.node.Names {
		k := x.kids[i]
		if !k.byPaths {
			l = append(l, []line{{nil, []string{name}, k}})
			continue
		}
		var own []line
		for _, in := range slices.Concat(lines(k)...) {
			own = append(own, line{append([]*expr{k}, in.through...), append([]string{name}, in.path...), in.value})
		}
		l = append(l, own)
	}
	return l
}

// bindings writes them so that of each name the first one stands in the names' order, and the others anywhere behind it.
func (w *writer) bindings(x *expr) {
	wait := lines(x)
	begun := 0
	for {
		var can []int
		for i := range wait {
			if len(wait[i]) > 0 && i <= begun {
				can = append(can, i)
			}
		}
		if len(can) == 0 {
			return
		}
		i := can[w.r.IntN(len(can))]
		w.binding(wait[i][0])
		wait[i] = wait[i][1:]
		begun = max(begun, i+1)
	}
}

func (w *writer) binding(l line) {
	if l.value.node.Kind == api.NInherit {
		w.token("inherit")
		l.value.node.At = w.token(l.path[0])
		w.token(";")
		return
	}
	first := w.attribute(l.path[0])
	for _, name := range l.path[1:] {
		w.token(".")
		w.attribute(name)
	}
	for _, set := range l.through {
		if set.node.At < 0 {
			set.node.At = first
		}
	}
	w.token("=")
	w.write(l.value, 0)
	w.token(";")
}

// someExpr gives an expression, with nothing below it that is made of others, if size is not above 0.
func someExpr(r *rand.Rand, size int) *expr {
	x := &expr{}
	n := &x.node
	if size <= 0 {
		n.Kind = []int{api.NInt, api.NFloat, api.NString, api.NName, api.NList, api.NSet, api.NRec}[r.IntN(7)]
	} else {
		n.Kind = 5 + r.IntN(14)
	}
	kids := func(l int) {
		for range l {
			x.kids = append(x.kids, someExpr(r, size-1-r.IntN(3)))
		}
	}
	switch n.Kind {
	case api.NInt:
		n.Int = int64(r.IntN(1000))
	case api.NFloat:
		n.Float = float64(r.IntN(1000)) / 8
	case api.NString:
		n.Text = pick(r, "", "s", "let", "+", "a\n\"b\\")
	case api.NName:
		n.Text = pick(r, "a", "b", "or'", "in-", "_")
	case api.NList:
		kids(min(max(size, 0), r.IntN(4)))
	case api.NSet, api.NRec, api.NLet:
		bound(r, x, size)
		if n.Kind == api.NLet {
			kids(1)
		}
	case api.NSelect:
		n.Text = pick(r, "a", "b", "or", "c d", "")
		kids(1 + r.IntN(2))
	case api.NHas:
		n.Text = pick(r, "a", "b", "let", "c d", "")
		kids(1)
	case api.NLambda:
		n.Text = pick(r, "a", "b", "c")
		kids(1)
	case api.NNot, api.NNeg:
		kids(1)
	case api.NIf:
		kids(3)
	case api.NBinary:
		n.Text = pick(r, "||", "&&", "==", "!=", "<", "<=", ">", ">=", "//", "+", "-", "*", "/", "++")
		kids(2)
	default:
		kids(2)
	}
	return x
}

// bound gives x names, and their values; those of a set that paths made are no inherited ones, and not none.
func bound(r *rand.Rand, x *expr, size int) {
	names := []string{"a", "b", "c", "or", "d e", ""}
	r.Shuffle(len(names), func(i, k int) { names[i], names[k] = names[k], names[i] })
	some := names[:min(max(size, 0), r.IntN(5))]
	if x.byPaths {
		some = names[:1+r.IntN(3)]
	}
	for _, name := range some {
		k := &expr{}
		switch c := r.IntN(6); {
		case c == 0 && !x.byPaths && len(name) == 1:
			k.node = api.Node{Kind: api.NInherit, Text: name}
		case c < 4 && size > 0:
			k.node = api.Node{Kind: api.NSet, At: -1}
			k.byPaths = true
			bound(r, k, size-2)
		default:
			k = someExpr(r, size-1-r.IntN(3))
		}
		x.node.Names = append(x.node.Names, name)
		x.kids = append(x.kids, k)
	}
}

func TestP1Written(t *testing.T) {
	r := rand.New(rand.NewPCG(11, 7))
	paths, most := 0, 0
	for range 30000 {
		x := someExpr(r, r.IntN(8))
		w := &writer{r: r}
		w.write(x, 0)
		text := w.text.String()
		want := flat(x, nil)
		if len(text) > api.MaxSource || len(want) > api.MaxNodes {
			continue
		}
		mustBe(t, text, tellAll(want))
		if t.Failed() {
			t.Fatal(text)
		}
		if strings.Contains(text, " . ") {
			paths++
		}
		most = max(most, len(want))
	}
	if paths < 1000 || most < 100 {
		t.Errorf("%d texts with a point, at most %d nodes: too few", paths, most)
	}
}
