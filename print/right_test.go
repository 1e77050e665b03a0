package print_test

import (
	"math"
	"slices"
	"strconv"
	"testing"

	"bootjack/api"
	"bootjack/parse"
	"bootjack/print"
)

var one = api.Node{Kind: api.NInt, Int: 1}

// over is a node that has all those ahead of it as kids.
func over(n api.Node, ahead ...api.Node) []api.Node {
	for i := range ahead {
		n.Kids = append(n.Kids, i)
	}
	return append(slices.Clone(ahead), n)
}

func mustBeRight(t *testing.T, want bool, f []api.Node) {
	t.Helper()
	if print.Right(f) != want {
		t.Errorf("Right of %+v: %v", f, !want)
	}
	if !want && print.Print(f) != "" {
		t.Errorf("Print of %+v: %q", f, print.Print(f))
	}
}

// sample gives an expression of each kind.
func sample(kind int) []api.Node {
	switch n := (api.Node{Kind: kind}); kind {
	case api.NInt, api.NFloat, api.NString, api.NList:
		return over(n)
	case api.NName:
		n.Text = "a"
		return over(n)
	case api.NSet, api.NRec:
		n.Names = []string{"a"}
		return over(n, one)
	case api.NLet:
		n.Names = []string{"a"}
		return over(n, one, one)
	case api.NSelect, api.NHas, api.NLambda:
		n.Text = "a"
		return over(n, one)
	case api.NNot, api.NNeg:
		return over(n, one)
	case api.NBinary:
		n.Text = "+"
		return over(n, one, one)
	case api.NIf:
		return over(n, one, one, one)
	case api.NInherit:
		n.Text = "a"
		return over(api.Node{Kind: api.NSet, Names: []string{"a"}}, n)
	default:
		return over(n, one, one)
	}
}

// itself is the number of the node of that kind in its sample.
func itself(kind int, f []api.Node) int {
	return slices.IndexFunc(f, func(n api.Node) bool { return n.Kind == kind })
}

func TestQ1Kinds(t *testing.T) {
	for kind := api.NInt; kind <= api.NInherit; kind++ {
		mustBeRight(t, true, sample(kind))
	}
	for _, kind := range []int{0, -1, 20, 21, math.MaxInt, math.MinInt} {
		mustBeRight(t, false, []api.Node{{Kind: kind}})
		mustBeRight(t, false, over(api.Node{Kind: kind}, one))
		mustBeRight(t, false, over(api.Node{Kind: api.NNot}, api.Node{Kind: kind}))
	}
}

func TestQ1Fields(t *testing.T) {
	for kind := api.NInt; kind <= api.NInherit; kind++ {
		alter := func(want bool, change func(n *api.Node)) {
			t.Helper()
			f := sample(kind)
			change(&f[itself(kind, f)])
			mustBeRight(t, want, f)
		}
		alter(kind == api.NInt, func(n *api.Node) { n.Int = 7 })
		alter(false, func(n *api.Node) { n.Int = -1 })
		alter(kind == api.NFloat, func(n *api.Node) { n.Float = 0.5 })
		for _, x := range []float64{math.Copysign(0, -1), -0.5, math.NaN(), math.Inf(1), math.Inf(-1)} {
			alter(false, func(n *api.Node) { n.Float = x })
		}
		alter(kind == api.NFloat, func(n *api.Node) { n.Float = math.MaxFloat64 })
		alter(kind == api.NFloat, func(n *api.Node) { n.Float = math.SmallestNonzeroFloat64 })
		hasText := slices.Contains([]int{api.NString, api.NName, api.NSelect, api.NHas, api.NLambda}, kind)
		alter(hasText, func(n *api.Node) { n.Text = "b" })
		alter(slices.Contains([]int{api.NName, api.NLambda, api.NBinary, api.NInherit}, kind) == false, func(n *api.Node) { n.Text = "" })
		alter(kind == api.NSet || kind == api.NRec || kind == api.NLet, func(n *api.Node) {
			if len(n.Names) > 0 {
				n.Names = []string{"b"}
			} else {
				n.Names = []string{"a"}
			}
		})
		alter(!slices.Contains([]int{api.NSet, api.NRec, api.NLet}, kind), func(n *api.Node) { n.Names = nil })
		alter(true, func(n *api.Node) { n.At = -5 })
	}
}

func TestQ1KidsCount(t *testing.T) {
	counts := map[int][]int{api.NList: {0, 1, 2, 3, 4, 5}, api.NSet: {0}, api.NRec: {0}, api.NLet: {1}, api.NSelect: {1, 2}, api.NHas: {1}, api.NCall: {2}, api.NLambda: {1}, api.NWith: {2}, api.NIf: {3}, api.NAssert: {2}, api.NNot: {1}, api.NNeg: {1}, api.NBinary: {2}, api.NInt: {0}, api.NFloat: {0}, api.NString: {0}, api.NName: {0}}
	for kind := api.NInt; kind < api.NInherit; kind++ {
		for kids := range 6 {
			f := sample(kind)
			n := f[len(f)-1]
			n.Kids, n.Names = nil, nil
			mustBeRight(t, slices.Contains(counts[kind], kids), over(n, slices.Repeat([]api.Node{one}, kids)...))
		}
	}
	for _, kind := range []int{api.NSet, api.NRec, api.NLet} {
		for kids := range 6 {
			for names := range 6 {
				n := api.Node{Kind: kind}
				for i := range names {
					n.Names = append(n.Names, strconv.Itoa(i))
				}
				more := 0
				if kind == api.NLet {
					more = 1
				}
				mustBeRight(t, kids == names+more, over(n, slices.Repeat([]api.Node{one}, kids)...))
			}
		}
	}
	inherit := api.Node{Kind: api.NInherit, Text: "a"}
	mustBeRight(t, false, []api.Node{one, {Kind: api.NInherit, Text: "a", Kids: []int{0}}, {Kind: api.NSet, Names: []string{"a"}, Kids: []int{1}}})
	mustBeRight(t, false, over(inherit, one))
}

func TestQ1Names(t *testing.T) {
	wrong := []string{"", " ", "a b", " a", "a ", "a\n", "a#", "(a)", "1", "1a", "a.b", "\"a\"", "'a", "-a", "a:", "é", "a\x00", "+", "let", "in", "rec", "with", "if", "then", "else", "inherit", "assert", "or"}
	right := []string{"a", "_", "Z", "a-b", "a'", "a1", "a-", "lets", "Let", "or'", "in-", "true", "null"}
	attributes := []string{"\t", "\n", "\x80", "\xff", "~", "\"", "\\", "a\"b\\c\nd\te"}
	forbidden := []string{"\x00", "\x01", "\x08", "\x0b", "\r", "\x1f", "\x7f", "a\x7f", "a\rb"}
	for _, c := range []struct {
		texts               []string
		isName, isAttribute bool
	}{{right, true, true}, {slices.DeleteFunc(slices.Clone(wrong), func(s string) bool { return s == "a\x00" }), false, true}, {attributes, false, true}, {append(forbidden, "a\x00"), false, false}} {
		for _, s := range c.texts {
			mustBeRight(t, c.isName, over(api.Node{Kind: api.NName, Text: s}))
			mustBeRight(t, c.isName, over(api.Node{Kind: api.NLambda, Text: s}, one))
			mustBeRight(t, c.isName, over(api.Node{Kind: api.NSet, Names: []string{s}}, api.Node{Kind: api.NInherit, Text: s}))
			mustBeRight(t, c.isAttribute, over(api.Node{Kind: api.NString, Text: s}))
			mustBeRight(t, c.isAttribute, over(api.Node{Kind: api.NSelect, Text: s}, one))
			mustBeRight(t, c.isAttribute, over(api.Node{Kind: api.NSelect, Text: s}, one, one))
			mustBeRight(t, c.isAttribute, over(api.Node{Kind: api.NHas, Text: s}, one))
			mustBeRight(t, c.isAttribute, over(api.Node{Kind: api.NSet, Names: []string{"x", s}}, one, one))
			mustBeRight(t, c.isAttribute, over(api.Node{Kind: api.NRec, Names: []string{s}}, one))
			mustBeRight(t, c.isAttribute, over(api.Node{Kind: api.NLet, Names: []string{s}}, one, one))
		}
	}
	for _, kind := range []int{api.NSet, api.NRec} {
		mustBeRight(t, true, over(api.Node{Kind: kind, Names: []string{"c", "a", "b"}}, one, one, one))
		mustBeRight(t, false, over(api.Node{Kind: kind, Names: []string{"c", "a", "c"}}, one, one, one))
		mustBeRight(t, false, over(api.Node{Kind: kind, Names: []string{"", ""}}, one, one))
	}
	mustBeRight(t, false, over(api.Node{Kind: api.NLet, Names: []string{"a", "a"}}, one, one, one))
}

func TestQ1Signs(t *testing.T) {
	for _, s := range []string{"||", "&&", "==", "!=", "<", "<=", ">", ">=", "//", "+", "-", "*", "/", "++"} {
		mustBeRight(t, true, over(api.Node{Kind: api.NBinary, Text: s}, one, one))
	}
	for _, s := range []string{"", "%", "=", "!", "|", "&", "=>", "+ ", "--", "?", ".", "or", "++ ", "=="[:1] + "==", "\x00"} {
		mustBeRight(t, false, over(api.Node{Kind: api.NBinary, Text: s}, one, one))
	}
}

func TestQ1Inherit(t *testing.T) {
	inherit := api.Node{Kind: api.NInherit, Text: "a"}
	for _, kind := range []int{api.NSet, api.NRec} {
		mustBeRight(t, true, over(api.Node{Kind: kind, Names: []string{"b", "a"}}, one, inherit))
		mustBeRight(t, false, over(api.Node{Kind: kind, Names: []string{"b", "a"}}, inherit, one))
		mustBeRight(t, false, over(api.Node{Kind: kind, Names: []string{"b"}}, inherit))
	}
	mustBeRight(t, true, over(api.Node{Kind: api.NLet, Names: []string{"a"}}, inherit, one))
	mustBeRight(t, false, over(api.Node{Kind: api.NLet, Names: []string{"a"}}, one, inherit))
	mustBeRight(t, false, over(api.Node{Kind: api.NLet}, inherit))
	mustBeRight(t, false, []api.Node{inherit})
	for kind := api.NList; kind < api.NInherit; kind++ {
		f := sample(kind)
		if len(f[len(f)-1].Names) > 0 {
			continue
		}
		for i := range len(f) - 1 {
			g := slices.Clone(f)
			g[i] = inherit
			mustBeRight(t, false, g)
		}
	}
	mustBeRight(t, false, over(api.Node{Kind: api.NList}, inherit))
	mustBeRight(t, false, over(api.Node{Kind: api.NSelect, Text: "a"}, one, inherit))
}

func TestQ1Order(t *testing.T) {
	not := func(kid int) api.Node { return api.Node{Kind: api.NNot, Kids: []int{kid}} }
	call := func(f, x int) api.Node { return api.Node{Kind: api.NCall, Kids: []int{f, x}} }
	for _, f := range [][]api.Node{
		{one, not(0), one, call(1, 2)},
		{one, one, not(1), call(0, 2)},
		{one, one, call(0, 1), one, call(2, 3)},
		{one, one, one, call(1, 2), call(0, 3)},
	} {
		mustBeRight(t, true, f)
	}
	for _, f := range [][]api.Node{
		nil,
		{},
		{one, one},                     // two wholes
		{one, one, not(1)},             // one that belongs to none
		{one, one, not(0)},             // the same
		{one, one, call(1, 0)},         // the other way round
		{one, call(0, 0)},              // one that belongs to a node twice
		{one, not(0), call(0, 1)},      // one that belongs to two
		{one, not(0), not(0)},          // the same
		{not(0)},                       // itself
		{not(1), one},                  // one behind
		{one, not(1)},                  // itself
		{one, not(2)},                  // none
		{one, not(-1)},                 // none
		{one, not(math.MaxInt)},        // none
		{one, not(math.MinInt)},        // none
		{one, one, not(0), call(2, 1)}, // one within another's
		{one, one, not(1), not(0)},     // the same
		{one, one, not(0), not(1), call(2, 3)},
		{one, not(0), one},
		{one, not(0), one, call(0, 2)},
	} {
		mustBeRight(t, false, f)
	}
	mustBeRight(t, false, []api.Node{{Kind: api.NList, Kids: make([]int, 1<<20)}})
	mustBeRight(t, false, []api.Node{{Kind: api.NSet, Names: make([]string, 1<<20)}})
}

func TestQ1ListsThatAreEmpty(t *testing.T) {
	mustBeRight(t, true, []api.Node{{Kind: api.NInt, Names: []string{}, Kids: []int{}}})
	mustBeRight(t, true, []api.Node{{Kind: api.NList, Kids: []int{}}})
	mustBeRight(t, true, []api.Node{{Kind: api.NSet, Names: []string{}, Kids: []int{}}})
}

// What is read is right; but an attribute's name that is a longer name than a string may be is not (TestQ1Lengths).
func TestQ1OfWhatIsRead(t *testing.T) {
	for _, s := range []string{"1", "a.b or c", "{ a.b = 1; a.\"\" = [ ]; inherit c; }", "let in rec { inherit a; }", "-1.5e3", "if a then b: c else with d; assert e; !f ? g"} {
		f, err := parse.Parse(s)
		if err != nil {
			t.Fatal(err)
		}
		mustBeRight(t, true, f)
	}
}
