package print_test

import (
	"strings"
	"testing"

	"bootjack/api"
	"bootjack/print"
)

func TestQ2Length(t *testing.T) {
	list := func(n int) []api.Node {
		return []api.Node{{Kind: api.NName, Text: strings.Repeat("a", n)}, {Kind: api.NList, Kids: []int{0}}}
	}
	mustPrint(t, list(api.MaxSource-4), "[ "+strings.Repeat("a", api.MaxSource-4)+" ]")
	mustPrint(t, list(api.MaxSource-3), "")
	mustPrint(t, list(api.MaxSource), "")
	mustPrint(t, list(api.MaxSource)[:1], strings.Repeat("a", api.MaxSource))
	// Blanks that a text has not make it too long.
	plus := "a" + strings.Repeat("+a", 499)
	mustPrint(t, nodes(t, plus), strings.ReplaceAll(plus, "+", " + "))
	long := strings.Repeat("b", 5)
	plus = long + strings.Repeat("+"+long, 499)
	mustPrint(t, nodes(t, plus), strings.ReplaceAll(plus, "+", " + "))
	plus = long + "bbbb" + strings.Repeat("+"+long+"b", 455)
	if n := len(strings.ReplaceAll(plus, "+", " + ")); n != 4104 {
		t.Fatal(n)
	}
	mustPrint(t, nodes(t, plus), "")
	mustPrint(t, nodes(t, plus[8:]), strings.ReplaceAll(plus[8:], "+", " + "))
	// So do the bytes that stand for one.
	tabs := "\"" + strings.Repeat("\t", 1024) + "\""
	three := "[" + tabs + tabs + "]"
	mustPrint(t, nodes(t, tabs), strings.ReplaceAll(tabs, "\t", `\t`))
	mustPrint(t, nodes(t, three), "")
}

func TestQ2Deep(t *testing.T) {
	for _, c := range []struct {
		ahead, behind string
		most          int // how many of them can be read, within the first expr
	}{
		{"[ ", " ]", 31},
		{"!", "", 31},
		{"-", "", 31},
		{"a // ", "", 31},
		{"a ++ ", "", 31},
		{"b.c or ", "", 31},
		{"b: ", "", 31},
		{"{ b = ", "; }", 31},
		{"rec { b = ", "; }", 31},
		{"let b = ", "; in c", 31},
		{"with b; ", "", 31},
		{"b (c ", ")", 31},
		{"[ (b ", ") ]", 15},
	} {
		text := func(n int) string { return strings.Repeat(c.ahead, n) + "a" + strings.Repeat(c.behind, n) }
		f := nodes(t, text(c.most))
		mustPrint(t, f, text(c.most))
		// One more of them, made by hand, for it cannot be read.
		one := nodes(t, text(1))
		mustPrint(t, within(one, f), "")
	}
	// What goes on from the left is no deeper, and is in brackets, if it goes on from the right.
	mustPrint(t, nodes(t, "a"+strings.Repeat(" - a", 400)), "a"+strings.Repeat(" - a", 400))
	f := nodes(t, "a")
	for i := range 40 {
		text := strings.Repeat("a - (", max(i-1, 0)) + "a" + strings.Repeat(" - a", min(i, 1)) + strings.Repeat(")", max(i-1, 0))
		if i > 32 {
			text = ""
		}
		mustPrint(t, f, text)
		f = within(nodes(t, "b - a"), f)
		f[0].Text = "a"
	}
	// A path is no level, but the sets that it makes are.
	path := func(n int) string { return "{" + strings.Repeat("a.", n-1) + "a=1;}" }
	mustPrint(t, nodes(t, path(31)), strings.Repeat("{ a = ", 31)+"1"+strings.Repeat("; }", 31))
	mustPrint(t, nodes(t, path(32)), "")
	mustPrint(t, nodes(t, path(500)), "")
}

// within puts f in the place of the name `a` of an expression.
func within(outer, f []api.Node) []api.Node {
	var l []api.Node
	number := make([]int, len(outer))
	for i, n := range outer {
		if n.Kind == api.NName && n.Text == "a" {
			number[i] = len(l) + len(f) - 1
			l = append(l, moved(f, len(l))...)
			continue
		}
		kids := make([]int, len(n.Kids))
		for j, k := range n.Kids {
			kids[j] = number[k]
		}
		n.Kids = kids
		number[i] = len(l)
		l = append(l, n)
	}
	return l
}

// moved gives the nodes as they are, where so many stand ahead of them.
func moved(f []api.Node, ahead int) []api.Node {
	l := make([]api.Node, len(f))
	for i, n := range f {
		kids := make([]int, len(n.Kids))
		for j, k := range n.Kids {
			kids[j] = k + ahead
		}
		n.Kids = kids
		l[i] = n
	}
	return l
}

func TestQ1Count(t *testing.T) {
	list := func(n int) []api.Node {
		var l []api.Node
		whole := api.Node{Kind: api.NList}
		for i := range n {
			l = append(l, api.Node{Kind: api.NInt, Int: 1})
			whole.Kids = append(whole.Kids, i)
		}
		return append(l, whole)
	}
	mustPrint(t, list(999), "["+strings.Repeat(" 1", 999)+" ]")
	for _, n := range []int{1000, 5000} {
		if print.Right(list(n)) || print.Print(list(n)) != "" {
			t.Errorf("%d nodes are right", n+1)
		}
	}
	// Many that stand within one another are right, though none reads their text.
	var deep []api.Node
	for i := range 1000 {
		deep = append(deep, api.Node{Kind: api.NNot, Kids: []int{i - 1}})
	}
	deep[0] = api.Node{Kind: api.NList}
	mustPrint(t, deep, "")
	if print.Right(append(deep, api.Node{Kind: api.NNot, Kids: []int{999}})) {
		t.Error("1001 nodes are right")
	}
}

func TestQ1Lengths(t *testing.T) {
	for _, n := range []int{1024, 1025} {
		s, may := strings.Repeat("a", n), n == 1024
		name := api.Node{Kind: api.NName, Text: "x"}
		for i, f := range [][]api.Node{
			{{Kind: api.NString, Text: s}},
			{name, {Kind: api.NSelect, Text: s, Kids: []int{0}}},
			{name, {Kind: api.NHas, Text: s, Kids: []int{0}}},
			{name, {Kind: api.NSet, Names: []string{s}, Kids: []int{0}}},
			{name, {Kind: api.NRec, Names: []string{s}, Kids: []int{0}}},
			{name, name, {Kind: api.NLet, Names: []string{s}, Kids: []int{0, 1}}},
			{{Kind: api.NInherit, Text: s}, {Kind: api.NSet, Names: []string{s}, Kids: []int{0}}},
		} {
			if print.Right(f) != may || (print.Print(f) != "") != may {
				t.Errorf("%d: of %d bytes: %v", i, n, !may)
			}
		}
	}
	// A name has no bound of its own, but that of a text.
	for _, n := range []int{1025, 4096, 4097} {
		s, may := strings.Repeat("a", n), n <= 4096
		if f := []api.Node{{Kind: api.NName, Text: s}}; print.Right(f) != may {
			t.Errorf("a name of %d bytes: %v", n, !may)
		}
		if f := []api.Node{{Kind: api.NInt}, {Kind: api.NLambda, Text: s, Kids: []int{0}}}; print.Right(f) != may {
			t.Errorf("a function's name of %d bytes: %v", n, !may)
		}
	}
}
