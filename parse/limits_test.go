package parse_test

import (
	"math/rand/v2"
	"slices"
	"strconv"
	"strings"
	"testing"

	"bootjack/api"
	"bootjack/parse"
)

// opening is what begins a level, and what ends it. The level's first token stands so many bytes on from where the opening begins. It is of a row, and leads into one (0: expr, .., 14: atom).
type opening struct {
	open, close string
	first       int
	row, into   int
}

var openings = []opening{
	{"(", ")", 1, 14, 0},
	{"[", "]", 0, 14, 13},
	{"[a b.c ", " d]", 0, 14, 13},
	{"!", "", 0, 6, 6},
	{"- ", "", 0, 10, 10},
	{"a//", "", 3, 5, 5},
	{"f a .b// ", "", 9, 5, 5},
	{"a++", "", 3, 9, 9},
	{"a.b or ", "", 7, 13, 13},
	{"{a=", ";}", 3, 14, 0},
	{"{inherit x;y.z=", ";y.u=1;}", 15, 14, 0},
	{"rec{a=", ";}", 6, 14, 0},
	{"let a=", ";in b", 6, 0, 0},
	{"let in ", "", 7, 0, 0},
	{"let a=1;in ", "", 6, 0, 0},
	{"a: ", "", 3, 0, 0},
	{"with ", ";b", 5, 0, 0},
	{"with a;", "", 5, 0, 0},
	{"assert ", ";b", 7, 0, 0},
	{"assert a;", "", 7, 0, 0},
	{"if ", " then a else b", 3, 0, 0},
	{"if a then ", " else b", 3, 0, 0},
	{"if a then b else ", "", 3, 0, 0},
}

// nested puts openings within one another about an atom, and tells where the level begins that stands within 32 others; -1, if there is none.
func nested(l []opening) (string, int) {
	open, end, at := "", "", -1
	for i, o := range l {
		if i == 31 { // and all is an expr
			at = len(open) + o.first
		}
		open += o.open
		end = o.close + end
	}
	return open + "x" + end, at
}

func TestP1EachLevel(t *testing.T) {
	for _, o := range openings {
		for n := range 60 {
			text, at := nested(slices.Repeat([]opening{o}, n))
			if at < 0 {
				mustParse(t, text)
			} else {
				mustFail(t, text, at, api.ErrDeep)
			}
		}
	}
	for _, o := range openings {
		text, _ := nested(append(brackets(30), o))
		mustParse(t, text)
		text, at := nested(append(brackets(31), o))
		mustFail(t, text, at, api.ErrDeep)
	}
	// What is right of `++` is a level, and a neg in it one more; a neg left of it is over by then.
	mustParse(t, strings.Repeat("(", 30)+"-a ++ a"+strings.Repeat(")", 30))
	mustFail(t, strings.Repeat("(", 30)+"-a ++ -a"+strings.Repeat(")", 30), 36, api.ErrDeep)
}

func brackets(n int) []opening {
	return slices.Repeat(openings[:1], n)
}

// TestP1MixedLevels puts all kinds of levels within one another, by the rows of the table.
func TestP1MixedLevels(t *testing.T) {
	r := rand.New(rand.NewPCG(11, 1))
	deep := 0
	for range 5000 {
		var l []opening
		row := 0
		for n := 26 + r.IntN(10); len(l) < n; {
			if o := openings[r.IntN(len(openings))]; o.row >= row {
				l = append(l, o)
				row = o.into
			}
		}
		text, at := nested(l)
		if at < 0 {
			mustParse(t, text)
		} else {
			mustFail(t, text, at, api.ErrDeep)
			deep++
		}
	}
	if deep < 1000 || deep > 4000 {
		t.Errorf("%d of 5000 are too deep: too one-sided", deep)
	}
}

// TestP1LevelsEnd: a level that is over does not count any more, whatever it was.
func TestP1LevelsEnd(t *testing.T) {
	for _, o := range openings {
		most := o.open + "x" + o.close
		mustParse(t, "["+strings.Repeat(" ("+most+")", 100)+" ]")
		inner, _ := nested(append(brackets(29), o))
		mustParse(t, "("+inner+") ("+inner+") ("+inner+")")
		mustParse(t, "{ a = "+inner+"; b = "+inner+"; }")
	}
	for _, s := range []string{"a", "(a)", "-a", "a.b or c", "[ ]"} {
		for _, sign := range []string{"+", "-", "*", "/", "||", "&&"} {
			mustParse(t, s+strings.Repeat(" "+sign+" "+s, 90))
		}
	}
	mustParse(t, strings.Repeat("!a || ", 90)+"a")
	mustParse(t, "a"+strings.Repeat(" == b && a", 90))
	mustParse(t, "(a // b) // (a // b) == a // b // c")
	mustParse(t, strings.Repeat("a.b or c ", 90))
	mustParse(t, "a"+strings.Repeat(".b", 500))
}

// TestP1NoLevels: what the chapter does not name as a level may be as deep as the nodes allow.
func TestP1NoLevels(t *testing.T) {
	for _, c := range []struct {
		text  string
		nodes int
	}{
		{strings.Repeat("a ", 500), 999},
		{"a" + strings.Repeat(".a", 999), 1000},
		{"a" + strings.Repeat("+a", 499), 999},
		{"a" + strings.Repeat(" - a", 499), 999},
		{"a" + strings.Repeat("&&a", 499), 999},
		{"{" + strings.Repeat("a.", 998) + "a=1;}", 1000},
		{"{" + strings.Repeat("a.", 499) + "a=1;" + strings.Repeat("a.", 497) + "b=1;}", 502},
	} {
		if f := mustParse(t, c.text); len(f) != c.nodes {
			t.Errorf("Parse(%q): %d nodes, not %d", short(c.text), len(f), c.nodes)
		}
	}
}

// TestP1DeepFirst: a level is too deep from its first token on, whatever that is, and what is wrong ahead of it or behind goes by the tokens.
func TestP1DeepFirst(t *testing.T) {
	in := strings.Repeat("(", 32)
	for _, s := range []string{"", ")", ";", "a", "!", "-", "[", "in", "a)", "a: b", "{ a = 1; a = 2; }"} {
		mustFail(t, in+s, 32, api.ErrDeep)
		mustFail(t, in[1:]+"a // "+s, 36, api.ErrDeep)
		mustFail(t, in[1:]+"a ++ "+s, 36, api.ErrDeep)
		mustFail(t, in[1:]+"a.b or "+s, 38, api.ErrDeep)
	}
	mustFail(t, in[1:]+")", 31, api.ErrWord)
	mustFail(t, in[1:], 31, api.ErrShort)
	mustFail(t, in[1:]+"a", 32, api.ErrShort)
	mustFail(t, in[1:]+"a.b or", 37, api.ErrDeep)
	mustFail(t, in[1:]+"a.b ]", 35, api.ErrWord)
	mustFail(t, ") "+in+"(", 0, api.ErrWord)
	mustFail(t, "a + ) "+in+"(", 4, api.ErrWord)
	mustFail(t, in+"( )", 32, api.ErrDeep)
	mustFail(t, in+"a a a"+strings.Repeat(" a", 1000), 32, api.ErrDeep)
	mustFail(t, "{ a = 1; a = "+in+"1", 9, api.ErrTwice)
	mustFail(t, "{ a = "+in+"1; a = 2; }", 37, api.ErrDeep)
	mustFail(t, in+"@", 32, api.ErrByte)
}

// TestP1Nodes goes about the greatest number of nodes.
func TestP1Nodes(t *testing.T) {
	for _, c := range []struct {
		text  func(n int) string
		first int // how many nodes it has of n = 0
		each  int
	}{
		{func(n int) string { return "[" + strings.Repeat("a ", n) + "]" }, 1, 1},
		{func(n int) string { return "f" + strings.Repeat(" a", n) }, 1, 2},
		{func(n int) string { return "f" + strings.Repeat(".a", n) }, 1, 1},
		{func(n int) string { return "f [" + strings.Repeat("1 ", n) + "]" }, 3, 1},
		{func(n int) string { return "{ inherit" + many(n) + "; }" }, 1, 1},
		{func(n int) string { return "let inherit" + many(n) + "; in a" }, 2, 1},
		{func(n int) string { return "{ a" + strings.Repeat(".b", n) + " = 1; }" }, 2, 1},
		{func(n int) string { return "{ a.x = [ ]; a" + strings.Repeat(".b", n) + ".b = 1; }" }, 4, 1},
		{func(n int) string { return " (" + strings.Repeat("(1+1)+", n) + "1)" }, 1, 4},
	} {
		for n := (api.MaxNodes-c.first)/c.each - 2; n < (api.MaxNodes-c.first)/c.each+3; n++ {
			text := c.text(n)
			nodes := c.first + n*c.each
			if len(text) > api.MaxSource {
				t.Fatalf("%q is too long", short(text))
			}
			if nodes > api.MaxNodes {
				mustFail(t, text, 0, api.ErrNodes)
				mustFail(t, " "+text, 0, api.ErrNodes)
			} else if f := mustParse(t, text); len(f) != nodes {
				t.Errorf("Parse(%q): %d nodes, not %d", short(text), len(f), nodes)
			}
		}
	}
}

// many gives n names that are all different, two bytes each at most.
func many(n int) string {
	s := ""
	for i := range n {
		s += " " + string(rune('a'+i%26))
		if i >= 26 {
			s += string("ABCDEFGHIJKLMNOPQRSTUVWXYZabcdefghijklmnopqrstuvwxyz0123456789"[i/26])
		}
	}
	return strings.ReplaceAll(strings.ReplaceAll(s+" ", " in ", " _ "), " if ", " __ ")
}

// TestP1NodesLast: too many nodes are told only where nothing else is wrong.
func TestP1NodesLast(t *testing.T) {
	lot := strings.Repeat("a ", 1500)
	mustFail(t, lot, 0, api.ErrNodes)
	mustFail(t, lot+")", 3000, api.ErrWord)
	mustFail(t, lot+"+", 3001, api.ErrShort)
	mustFail(t, "("+lot, 3001, api.ErrShort)
	mustFail(t, "{ a = "+lot+"; a = 1; }", 3008, api.ErrTwice)
	mustFail(t, lot+strings.Repeat("(", 40), 3032, api.ErrDeep)
	mustFail(t, strings.Repeat("1", 5)+lot+"@", 3005, api.ErrByte)
	mustFail(t, "[ "+strings.Repeat("a ", 2040)+"] in", 4084, api.ErrWord)
	mustFail(t, "[ "+strings.Repeat("a ", 2040)+"]", 0, api.ErrNodes)
	mustFail(t, "{"+strings.Repeat("a.", 2040)+"a=1;}", 0, api.ErrNodes)
	mustFail(t, "{"+strings.Repeat("a.", 1000)+"a=1;"+strings.Repeat("a.", 1000)+"a=1;}", 2005, api.ErrTwice)
}

// TestP1ManyItems: how many items a list or a set has is not for this layer to say.
func TestP1ManyItems(t *testing.T) {
	f := mustParse(t, "["+strings.Repeat("1 ", 900)+"]")
	if n := len(f[900].Kids); n != 900 {
		t.Errorf("%d items of 900", n)
	}
	f = mustParse(t, "{ inherit"+many(900)+"; }")
	if n := len(f[900].Names); n != 900 {
		t.Errorf("%d names of 900", n)
	}
}

// TestP1EachToken puts each token alone, and in the middle of what it may not end.
func TestP1EachToken(t *testing.T) {
	for _, s := range []string{"{", "}", "[", "]", "(", ")", "=", ";", ".", ":", "?", "!", "<", ">", "+", "-", "*", "/", "++", "//", "==", "!=", "<=", ">=", "&&", "||"} {
		switch s {
		case "{", "[", "(", "!", "-":
			mustFail(t, s, len(s), api.ErrShort)
		default:
			mustFail(t, s, 0, api.ErrWord)
		}
		text := "a " + s
		switch s {
		case "}", "]", ")", "=", ";", "!":
			mustFail(t, text, 2, api.ErrWord)
		default:
			mustFail(t, text, len(text), api.ErrShort)
		}
	}
	for i, s := range []string{"let", "in", "rec", "with", "if", "then", "else", "inherit", "assert", "or"} {
		e, at := api.ErrShort, len(s)
		switch s {
		case "in", "then", "else", "inherit", "or":
			e, at = api.ErrWord, 0
		}
		mustFail(t, s, at, e)
		if _, err := parse.Parse("a: " + s); err == nil {
			t.Error("keyword " + strconv.Itoa(i) + " is an expression")
		}
	}
}
