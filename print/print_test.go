package print_test

import (
	"math"
	"reflect"
	"slices"
	"strings"
	"testing"

	"bootjack/api"
	"bootjack/parse"
	"bootjack/print"
)

// nodes is an expression, as it is read, without its places.
func nodes(t testing.TB, text string) []api.Node {
	t.Helper()
	f, err := parse.Parse(text)
	if err != nil {
		t.Fatalf("%q: %v", text, err)
	}
	return placeless(f)
}

// placeless gives the nodes with At 0, and with nil for what is empty.
func placeless(f []api.Node) []api.Node {
	l := slices.Clone(f)
	for i, n := range l {
		l[i].At = 0
		if len(n.Names) == 0 {
			l[i].Names = nil
		}
		if len(n.Kids) == 0 {
			l[i].Kids = nil
		}
	}
	return l
}

func mustPrint(t *testing.T, f []api.Node, want string) {
	t.Helper()
	if !print.Right(f) {
		t.Errorf("Right of %v is false", f)
	}
	if got := print.Print(f); got != want {
		t.Errorf("Print: %q, want %q", got, want)
	}
	if want == "" {
		return
	}
	again, err := parse.Parse(want)
	if err != nil || !reflect.DeepEqual(placeless(again), placeless(f)) {
		t.Errorf("%q: %v, %v", want, again, err)
	}
}

func TestQ2Texts(t *testing.T) {
	for _, c := range []struct{ text, want string }{
		// The chapter's own.
		{"a+b*c++d", "a + b * c ++ d"},
		{"(a+b)*c", "(a + b) * c"},
		{"-(-a).b", "-(-a).b"},
		{"f (g x) [ (a b) c ]", "f (g x) [ (a b) c ]"},
		{"{a.b=1;}", "{ a = { b = 1; }; }"},
		{"(a.b or c).d", "(a.b or c).d"},
		{`a."b c"."d"`, `a."b c".d`},
		// Each kind.
		{"((7))", "7"},
		{"0", "0"},
		{"9223372036854775807", "9223372036854775807"},
		{"0.0", "0.0"},
		{"1.50", "1.5"},
		{"100.0", "100.0"},
		{"1.0e21", "1.0e+21"},
		{"0.0000001", "1.0e-07"},
		{"17.9e307", "1.79e+308"},
		{`""`, `""`},
		{"\"a\n\t\\\"\\\\b\"", `"a\n\t\"\\b"`},
		{"\"\\n\\t\"", `"\n\t"`},
		{"\"\x80\xff\u00e9 #\"", "\"\x80\xff\u00e9 #\""},
		{"a-b'_9", "a-b'_9"},
		{"[]", "[ ]"},
		{"[a[]1]", "[ a [ ] 1 ]"},
		{"{}", "{ }"},
		{`{a=1;"b c"=2;"d"=3;"or"=4;""=5;}`, `{ a = 1; "b c" = 2; d = 3; "or" = 4; "" = 5; }`},
		{"{inherit a b;c=1;inherit d;}", "{ inherit a; inherit b; c = 1; inherit d; }"},
		{"{inherit;}", "{ }"},
		{"rec{}", "rec { }"},
		{"rec{a.b=1;c=a;a.d=2;}", "rec { a = { b = 1; d = 2; }; c = a; }"},
		{"a.b", "a.b"},
		{"a.b.c or d", "a.b.c or d"},
		{"a.b or c.d or e", "a.b or c.d or e"},
		{"a.b or(c.d or e)", "a.b or c.d or e"},
		{"1.a", "1.a"},
		{"1.5.e5", "1.5.e5"},
		{"{}.a", "{ }.a"},
		{"a?b", "a ? b"},
		{`a?"b"`, "a ? b"},
		{`a?"let"`, `a ? "let"`},
		{"a b c", "a b c"},
		{"a:b:c", "a: b: c"},
		{"let in a", "let in a"},
		{"let a=1;inherit b;in a", "let a = 1; inherit b; in a"},
		{"let a.b=1;in a", "let a = { b = 1; }; in a"},
		{"with a;b", "with a; b"},
		{"if a then b else c", "if a then b else c"},
		{"assert a;b", "assert a; b"},
		{"!a", "!a"},
		{"! ! a", "!!a"},
		{"-a", "-a"},
		{"- - 1", "--1"},
	} {
		mustPrint(t, nodes(t, c.text), c.want)
	}
}

func TestQ2Signs(t *testing.T) {
	for _, c := range []struct {
		signs                 string
		leftLoose, rightLoose bool   // does a part of the same row stand there without brackets?
		below, above          string // what the rows next to it make
	}{
		{signs: "||", leftLoose: true, below: "a: a", above: "a && b"},
		{signs: "&&", leftLoose: true, below: "a || b", above: "a == b"},
		{signs: "== !=", below: "a && b", above: "a < b"},
		{signs: "< <= > >=", below: "a == b", above: "a // b"},
		{signs: "//", rightLoose: true, below: "a < b", above: "!a"},
		{signs: "+ -", leftLoose: true, below: "!a", above: "a * b"},
		{signs: "* /", leftLoose: true, below: "a + b", above: "a ++ b"},
		{signs: "++", rightLoose: true, below: "a * b", above: "-a"},
	} {
		signs := strings.Fields(c.signs)
		for _, s := range signs {
			for _, same := range signs {
				in := "x " + same + " y"
				mustPrint(t, nodes(t, "("+in+")"+s+"z"), bracketIf(!c.leftLoose, in)+" "+s+" z")
				mustPrint(t, nodes(t, "z "+s+"("+in+")"), "z "+s+" "+bracketIf(!c.rightLoose, in))
			}
			mustPrint(t, nodes(t, "("+c.below+")"+s+"("+c.below+")"), "("+c.below+") "+s+" ("+c.below+")")
			mustPrint(t, nodes(t, "("+c.above+")"+s+"("+c.above+")"), c.above+" "+s+" "+c.above)
		}
	}
}

func bracketIf(need bool, s string) string {
	if need {
		return "(" + s + ")"
	}
	return s
}

// TestQ2Places holds what each row makes against each place that is no sign's.
func TestQ2Places(t *testing.T) {
	made := []string{"a: a", "a || b", "a && b", "a == b", "a < b", "a // b", "!a", "a + b", "a * b", "a ++ b", "-a", "a ? b", "a b", "a.b", "a"}
	for _, c := range []struct {
		ahead, behind string
		least         string // the first of those made that stands there without brackets
	}{
		{"!", "", "!a"},
		{"-", "", "-a"},
		{"", " ? x", "a b"},
		{"", " x", "a b"},
		{"x ", "", "a.b"},
		{"[ ", " ]", "a.b"},
		{"[ x ", " y ]", "a.b"},
		{"x.y or ", "", "a.b"},
		{"", ".x", "a.b"},
		{"", ".x or y", "a.b"},
		{"x: ", "", "a: a"},
		{"{ x = ", "; }", "a: a"},
		{"rec { x = ", "; }", "a: a"},
		{"let x = ", "; in y", "a: a"},
		{"let in ", "", "a: a"},
		{"with ", "; x", "a: a"},
		{"with x; ", "", "a: a"},
		{"assert ", "; x", "a: a"},
		{"assert x; ", "", "a: a"},
		{"if ", " then x else y", "a: a"},
		{"if x then ", " else y", "a: a"},
		{"if x then y else ", "", "a: a"},
	} {
		for i, m := range made {
			need := i < slices.Index(made, c.least)
			mustPrint(t, nodes(t, c.ahead+"("+m+")"+c.behind), c.ahead+bracketIf(need, m)+c.behind)
		}
	}
}

// TestQ2LooseKinds: what stands in the loosest row is in brackets wherever another row is asked for.
func TestQ2LooseKinds(t *testing.T) {
	for _, loose := range []string{"a: b", "let in a", "let a = 1; in a", "with a; b", "if a then b else c", "assert a; b"} {
		for _, place := range []string{"(X) || x", "x || (X)", "!(X)", "-(X)", "(X) ? x", "(X) x", "x (X)", "(X).x", "x.y or (X)", "[ (X) ]"} {
			text := strings.ReplaceAll(place, "X", loose)
			mustPrint(t, nodes(t, text), text)
		}
		mustPrint(t, nodes(t, "("+loose+")"), loose)
	}
}

func TestQ2Else(t *testing.T) {
	for _, c := range []struct{ text, want string }{
		{"(a.b or c).d or e", "(a.b or c).d or e"},
		{"((a.b or c).d).e", "(a.b or c).d.e"},
		{"(a.b or c) d", "a.b or c d"},
		{"d (a.b or c)", "d a.b or c"},
		{"[ (a.b or c) d ]", "[ a.b or c d ]"},
		{"(a.b or c) ? d", "a.b or c ? d"},
		{"a.b or (c d)", "a.b or (c d)"},
		{"a.b or [ ]", "a.b or [ ]"},
		{"a.b or (c.d)", "a.b or c.d"},
		{"-(a.b or c)", "-a.b or c"},
	} {
		mustPrint(t, nodes(t, c.text), c.want)
	}
}

func TestQ2ReadsNoAt(t *testing.T) {
	f := nodes(t, "let a = [ 1 ]; in a.b or { inherit c; }")
	want := print.Print(f)
	for i := range f {
		f[i].At = []int{-1, math.MaxInt, 7}[i%3]
	}
	mustPrint(t, f, want)
}

func TestQ2OfWrongOnes(t *testing.T) {
	for _, f := range [][]api.Node{nil, {}, {{}}, {{Kind: api.NName, Text: "let"}}, {{Kind: api.NInherit, Text: "a"}}, {{Kind: api.NNot, Kids: []int{0}}}} {
		if got := print.Print(f); got != "" {
			t.Errorf("Print of %v: %q", f, got)
		}
	}
}

func TestQ2ChangesNothing(t *testing.T) {
	f := []api.Node{
		{Kind: api.NInt, Int: 1},
		{Kind: api.NInherit, Text: "a"},
		{Kind: api.NSet, Names: append(make([]string, 0, 4), "b", "a"), Kids: append(make([]int, 0, 4), 0, 1)},
	}
	kids, names := f[2].Kids[:4], f[2].Names[:4]
	mustPrint(t, f, "{ b = 1; inherit a; }")
	if !slices.Equal(kids, []int{0, 1, 0, 0}) || !slices.Equal(names, []string{"b", "a", "", ""}) {
		t.Errorf("%v, %v", kids, names)
	}
	mustPrint(t, f, "{ b = 1; inherit a; }")
}
