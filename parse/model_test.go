package parse_test

import (
	"errors"
	"math/rand/v2"
	"strings"
	"testing"

	"bootjack/api"
	"bootjack/lex"
	"bootjack/parse"
)

// The model climbs by the rows' numbers, with the levels handed on from call to call, and puts paths together when a set is all read.

type expr struct {
	node    api.Node // without its Kids
	kids    []*expr
	byPaths bool // told by the writer alone (written_test.go): a set that paths made
}

// entry is a binding as it was written.
type entry struct {
	path  []string
	at    int
	value *expr
}

type model struct {
	tokens []api.Token
	fault  *api.Fault // the first one; from then on nothing is read any more
}

// modelParse gives what the chapter says of a text.
func modelParse(text string) ([]api.Node, *api.Fault) {
	tokens, err := lex.All(text)
	if err != nil {
		f := err.(*api.Fault)
		return nil, f
	}
	m := &model{tokens: tokens}
	x := m.expr(0)
	if m.fault == nil && m.tokens[0].Kind != api.TokEnd {
		m.fail()
	}
	if m.fault != nil {
		return nil, m.fault
	}
	l := flat(x, nil)
	if len(l) > 1000 {
		return nil, &api.Fault{At: 0, Err: api.ErrNodes}
	}
	return l, nil
}

func flat(x *expr, l []api.Node) []api.Node {
	n := x.node
	for _, k := range x.kids {
		l = flat(k, l)
		n.Kids = append(n.Kids, len(l)-1)
	}
	return append(l, n)
}

// word gives a token as one text: signs and keywords as they are, and what a name, a number, a string and the end are.
func (m *model) word() string {
	t := m.tokens[0]
	switch t.Kind {
	case api.TokEnd:
		return "END"
	case api.TokInt, api.TokFloat:
		return "NUMBER"
	case api.TokString:
		return "STRING"
	}
	if t.Kind == api.TokName && !strings.Contains(" let in rec with if then else inherit assert or ", " "+t.Text+" ") {
		return "NAME"
	}
	return t.Text
}

func (m *model) one(words string) bool {
	return m.fault == nil && strings.Contains(" "+words+" ", " "+m.word()+" ")
}

func (m *model) set(at int, e api.Errno) {
	if m.fault == nil {
		m.fault = &api.Fault{At: at, Err: e}
	}
}

func (m *model) fail() {
	if m.word() == "END" {
		m.set(m.tokens[0].At, api.ErrShort)
	} else {
		m.set(m.tokens[0].At, api.ErrWord)
	}
}

// eat takes a token that must be one of those words.
func (m *model) eat(words string) api.Token {
	if !m.one(words) {
		m.fail()
		return api.Token{}
	}
	t := m.tokens[0]
	m.tokens = m.tokens[1:]
	return t
}

// down tells how many levels are open in one that begins here.
func (m *model) down(levels int) int {
	if levels >= 32 {
		m.set(m.tokens[0].At, api.ErrDeep)
	}
	return levels + 1
}

func node(kind, at int, text string, kids ...*expr) *expr {
	return &expr{node: api.Node{Kind: kind, At: at, Text: text}, kids: kids}
}

func (m *model) expr(levels int) *expr {
	levels = m.down(levels)
	if m.fault != nil {
		return nil
	}
	at := m.tokens[0].At
	switch {
	case m.one("NAME") && m.tokens[1].Kind == api.TokSign && m.tokens[1].Text == ":":
		name := m.eat("NAME")
		m.eat(":")
		return node(api.NLambda, at, name.Text, m.expr(levels))
	case m.one("let"):
		m.eat("let")
		x := m.bindings(api.NLet, at, levels)
		m.eat("in")
		x.kids = append(x.kids, m.expr(levels))
		return x
	case m.one("with assert"):
		kind := map[string]int{"with": api.NWith, "assert": api.NAssert}[m.eat("with assert").Text]
		a := m.expr(levels)
		m.eat(";")
		return node(kind, at, "", a, m.expr(levels))
	case m.one("if"):
		m.eat("if")
		a := m.expr(levels)
		m.eat("then")
		b := m.expr(levels)
		m.eat("else")
		return node(api.NIf, at, "", a, b, m.expr(levels))
	}
	x, _ := m.climb(1, levels)
	return x
}

// climb reads what is of a row from low on, and tells of which one it is.
func (m *model) climb(low, levels int) (*expr, int) {
	x, row := m.operand(low, levels)
	for m.fault == nil && m.tokens[0].Kind == api.TokSign {
		next := rowOf[m.tokens[0].Text]
		fromRight, once := next == 5 || next == 9, next == 3 || next == 4
		if next == 0 || next < low || row < next || row == next && (fromRight || once) {
			break
		}
		sign := m.eat(m.word())
		var right *expr
		if fromRight {
			right, _ = m.climb(next, m.down(levels))
		} else {
			right, _ = m.climb(next+1, levels)
		}
		x, row = node(api.NBinary, sign.At, sign.Text, x, right), next
	}
	return x, row
}

func (m *model) operand(low, levels int) (*expr, int) {
	for _, p := range []struct {
		sign      string
		row, kind int
	}{{"!", 6, api.NNot}, {"-", 10, api.NNeg}} {
		if low <= p.row && m.one(p.sign) {
			levels = m.down(levels)
			at := m.eat(p.sign).At
			x, _ := m.climb(p.row, levels)
			return node(p.kind, at, "", x), p.row
		}
	}
	x := m.sel(levels)
	for m.one(atoms) {
		x = node(api.NCall, x.node.At, "", x, m.sel(levels))
	}
	if m.one("?") {
		at := m.eat("?").At
		x = node(api.NHas, at, m.eat("NAME STRING").Text, x)
	}
	return x, 12
}

const atoms = "NAME NUMBER STRING ( [ { rec"

func (m *model) sel(levels int) *expr {
	x := m.atom(levels)
	for m.one(".") {
		at := m.eat(".").At
		x = node(api.NSelect, at, m.eat("NAME STRING").Text, x)
		if m.one("or") {
			m.eat("or")
			x.kids = append(x.kids, m.sel(m.down(levels)))
		}
	}
	return x
}

func (m *model) atom(levels int) *expr {
	if m.one("[") {
		levels = m.down(levels)
	}
	t := m.eat(atoms)
	switch {
	case m.fault != nil:
		return node(0, 0, "")
	case t.Kind == api.TokInt:
		return &expr{node: api.Node{Kind: api.NInt, Int: t.Int, At: t.At}}
	case t.Kind == api.TokFloat:
		return &expr{node: api.Node{Kind: api.NFloat, Float: t.Float, At: t.At}}
	case t.Kind == api.TokString:
		return node(api.NString, t.At, t.Text)
	case t.Text == "(":
		x := m.expr(levels)
		m.eat(")")
		if m.fault != nil {
			return node(0, 0, "")
		}
		return x
	case t.Text == "[":
		x := node(api.NList, t.At, "")
		for m.one(atoms) {
			x.kids = append(x.kids, m.sel(levels))
		}
		m.eat("]")
		return x
	case t.Text == "{":
		x := m.bindings(api.NSet, t.At, levels)
		m.eat("}")
		return x
	case t.Text == "rec":
		m.eat("{")
		x := m.bindings(api.NRec, t.At, levels)
		m.eat("}")
		return x
	}
	return node(api.NName, t.At, t.Text)
}

// bindings reads them as they are written, holds each path against all ahead of it, and groups them then.
func (m *model) bindings(kind, at, levels int) *expr {
	var l []entry
	ends, ways := map[string]bool{}, map[string]bool{}
	add := func(path []string, at int) {
		whole := strings.Join(path, "\x00") // no name has this byte
		bad := ends[whole] || ways[whole]
		for i := 1; i < len(path); i++ {
			way := strings.Join(path[:i], "\x00")
			bad = bad || ends[way]
			ways[way] = true
		}
		if bad {
			m.set(at, api.ErrTwice)
		}
		ends[whole] = true
	}
	for m.one("inherit NAME STRING") {
		if m.one("inherit") {
			m.eat("inherit")
			for m.one("NAME") {
				t := m.eat("NAME")
				add([]string{t.Text}, t.At)
				l = append(l, entry{[]string{t.Text}, t.At, node(api.NInherit, t.At, t.Text)})
			}
			m.eat(";")
			continue
		}
		first := m.eat("NAME STRING")
		path := []string{first.Text}
		for m.one(".") {
			m.eat(".")
			path = append(path, m.eat("NAME STRING").Text)
		}
		m.eat("=")
		add(path, first.At)
		l = append(l, entry{path, first.At, m.expr(levels)})
		m.eat(";")
	}
	return group(kind, at, l)
}

// group makes a set of bindings: those that begin with one name stand where the first of them does.
func group(kind, at int, l []entry) *expr {
	x := node(kind, at, "")
	longer := map[string][]entry{}
	for _, e := range l {
		name := e.path[0]
		if len(e.path) > 1 {
			longer[name] = append(longer[name], entry{e.path[1:], e.at, e.value})
			if len(longer[name]) > 1 {
				continue
			}
		}
		x.node.Names = append(x.node.Names, name)
		x.kids = append(x.kids, e.value)
	}
	for i, name := range x.node.Names {
		if in := longer[name]; len(in) > 0 {
			x.kids[i] = group(api.NSet, in[0].at, in)
		}
	}
	return x
}

// mustAgree holds Parse against the model, and tells which error there was.
func mustAgree(t *testing.T, text string) api.Errno {
	t.Helper()
	want, f := modelParse(text)
	got, err := parse.Parse(text)
	if f != nil {
		var g *api.Fault
		if len(got) != 0 || !errors.As(err, &g) || *g != *f {
			t.Fatalf("Parse(%q) = %s, %v (%v), not %v", text, tellAll(got), err, g, *f)
		}
		if f.Err == api.ErrWord {
			mustGoOn(t, text[:f.At])
		}
		return f.Err
	}
	if err != nil || tellAll(got) != tellAll(want) {
		t.Fatalf("Parse(%q) = %s, %v, not %s", text, tellAll(got), err, tellAll(want))
	}
	mustBeRight(t, text, got)
	return api.OK
}

// mustGoOn holds that nothing is wrong ahead of the first wrong token, but that it may end too early.
func mustGoOn(t *testing.T, text string) {
	t.Helper()
	_, err := parse.Parse(text)
	var f *api.Fault
	if errors.As(err, &f) && f.Err != api.ErrNodes && (f.Err != api.ErrShort || f.At != len(text)) {
		t.Fatalf("Parse(%q) = %d at %d", text, f.Err, f.At)
	}
}

// kidsOf gives how many kids a kind has: the least, and the most (-1: any).
var kidsOf = map[int][2]int{api.NInt: {0, 0}, api.NFloat: {0, 0}, api.NString: {0, 0}, api.NName: {0, 0}, api.NList: {0, -1}, api.NSet: {0, -1}, api.NRec: {0, -1}, api.NSelect: {1, 2}, api.NHas: {1, 1}, api.NCall: {2, 2}, api.NLambda: {1, 1}, api.NLet: {1, -1}, api.NWith: {2, 2}, api.NIf: {3, 3}, api.NAssert: {2, 2}, api.NNot: {1, 1}, api.NNeg: {1, 1}, api.NBinary: {2, 2}, api.NInherit: {0, 0}}

// mustBeRight holds the nodes against the chapter's table and their order.
func mustBeRight(t *testing.T, text string, f []api.Node) {
	t.Helper()
	inherited := map[int]string{}
	for i, n := range f {
		most, ok := kidsOf[n.Kind]
		bad := !ok || len(n.Kids) < most[0] || most[1] >= 0 && len(n.Kids) > most[1]
		switch n.Kind {
		case api.NSet, api.NRec:
			bad = bad || len(n.Names) != len(n.Kids) || n.Text != ""
		case api.NLet:
			bad = bad || len(n.Names) != len(n.Kids)-1 || n.Text != ""
		case api.NInt, api.NFloat, api.NList, api.NCall, api.NWith, api.NIf, api.NAssert, api.NNot, api.NNeg:
			bad = bad || n.Text != "" || len(n.Names) != 0
		default:
			bad = bad || len(n.Names) != 0
		}
		bad = bad || n.Int != 0 && n.Kind != api.NInt || n.Float != 0 && n.Kind != api.NFloat || n.At < 0 || n.At >= len(text)
		names := map[string]bool{}
		for k, name := range n.Names {
			bad = bad || names[name]
			names[name] = true
			if f[n.Kids[k]].Kind == api.NInherit {
				inherited[n.Kids[k]] = name
			}
		}
		if bad {
			t.Fatalf("Parse(%q): node %d is not right: %s", text, i, tellAll(f))
		}
	}
	for i, n := range f {
		if name, ok := inherited[i]; n.Kind == api.NInherit && (!ok || name != n.Text) {
			t.Fatalf("Parse(%q): node %d stands where it may not: %s", text, i, tellAll(f))
		}
	}
	if first := begin(f, len(f)-1); first != 0 {
		t.Fatalf("Parse(%q): the nodes do not stand in order: %s", text, tellAll(f))
	}
}

// begin gives where the nodes begin of which a node is made, if they stand in order without a gap; else -1.
func begin(f []api.Node, i int) int {
	at := i
	for k := len(f[i].Kids) - 1; k >= 0; k-- {
		if f[i].Kids[k] != at-1 {
			return -1
		}
		if at = begin(f, at-1); at < 0 {
			return -1
		}
	}
	return at
}

func pick(r *rand.Rand, of ...string) string { return of[r.IntN(len(of))] }

var someTokens = strings.Split("{ } [ ] ( ) = ; . : ? ! < > + - * / ++ // == != <= >= && || let in rec with if then else inherit assert or a b c 1 1.5 \"a\" \"b\"", " ")

// TestModelSoup takes tokens by chance; most are soon wrong.
func TestModelSoup(t *testing.T) {
	r := rand.New(rand.NewPCG(11, 2))
	for range 100000 {
		text := ""
		for range r.IntN(9) {
			text += pick(r, someTokens...) + pick(r, " ", " ", "\n", "")
		}
		mustAgree(t, text)
	}
}

// sentence writes something that a row of the table may be (0: expr, 1: or, .., 13: sel, 14: atom), mostly without looking at names that stand twice.
func sentence(r *rand.Rand, row, size int) string {
	if size <= 0 {
		return pick(r, "a", "b", "c", "1", "2.5", `"s"`, "[ ]", "{ }")
	}
	s := func(row int) string { return sentence(r, row, size-1-r.IntN(size)) }
	if r.IntN(4) > 0 && row < 14 {
		row += r.IntN(15 - row)
	}
	switch row {
	case 0:
		return pick(r, "a: "+s(0), "let "+bindings(r, size-1)+"in "+s(0), "with "+s(0)+"; "+s(0), "if "+s(0)+" then "+s(0)+" else "+s(0), "assert "+s(0)+"; "+s(0))
	case 1:
		return s(1) + " || " + s(2)
	case 2:
		return s(2) + " && " + s(3)
	case 3:
		return s(4) + pick(r, " == ", " != ") + s(4)
	case 4:
		return s(5) + pick(r, " < ", " <= ", " > ", " >= ") + s(5)
	case 5:
		return s(6) + " // " + s(5)
	case 6:
		return "!" + s(6)
	case 7:
		return s(7) + pick(r, " + ", " - ") + s(8)
	case 8:
		return s(8) + pick(r, " * ", " / ") + s(9)
	case 9:
		return s(10) + " ++ " + s(9)
	case 10:
		return "- " + s(10)
	case 11:
		return s(12) + " ? " + pick(r, "a", "b", `"c d"`)
	case 12:
		return s(12) + " " + s(13)
	case 13:
		return s(13) + "." + pick(r, "a", "b", `"c d"`) + pick(r, "", " or "+s(13))
	}
	list := ""
	for range r.IntN(4) {
		list += s(13) + " "
	}
	return pick(r, "("+s(0)+")", "["+list+"]", "{ "+bindings(r, size-1)+"}", "rec { "+bindings(r, size-1)+"}")
}

func bindings(r *rand.Rand, size int) string {
	s := ""
	for range r.IntN(4) {
		switch r.IntN(4) {
		case 0:
			s += "inherit" + pick(r, "", " a", " b", " c d", " e f g") + "; "
		default:
			s += pick(r, "a", "b", "c", "d", "e", `"a"`, `"b c"`)
			for range r.IntN(3) {
				s += "." + pick(r, "a", "b", "c", "d", `"b"`)
			}
			s += " = " + sentence(r, 0, size-r.IntN(3)) + "; "
		}
	}
	return s
}

// mustHaveSeen holds that each of these answers came often enough.
func mustHaveSeen(t *testing.T, seen map[api.Errno]int, least int, errs ...api.Errno) {
	t.Helper()
	for _, e := range errs {
		if seen[e] < least {
			t.Errorf("error %d was told %d times: too few", e, seen[e])
		}
	}
}

// TestModelSentences takes texts that the table allows, and then with a token taken out, put in, or put elsewhere.
func TestModelSentences(t *testing.T) {
	r := rand.New(rand.NewPCG(11, 3))
	seen := map[api.Errno]int{}
	for range 30000 {
		text := sentence(r, 0, r.IntN(9))
		if len(text) > 2000 {
			continue
		}
		e := mustAgree(t, text)
		if e != api.OK && e != api.ErrTwice {
			t.Fatalf("Parse(%q): %d", text, e)
		}
		seen[e]++
		words := strings.Fields(text)
		for range 3 {
			seen[mustAgree(t, altered(r, words))]++
		}
		if e == api.OK {
			cut := r.IntN(len(words))
			if e := mustAgree(t, strings.Join(words[:cut], " ")); e != api.OK && e != api.ErrShort && e != api.ErrWord && e != api.ErrString {
				t.Fatalf("Parse(%q): %d", strings.Join(words[:cut], " "), e)
			}
		}
	}
	mustHaveSeen(t, seen, 1000, api.OK, api.ErrTwice, api.ErrWord, api.ErrShort)
}

func altered(r *rand.Rand, words []string) string {
	i := r.IntN(len(words))
	one := append([]string{}, words...)
	switch r.IntN(3) {
	case 0:
		one[i] = ""
	case 1:
		one[i] += " " + pick(r, someTokens...)
	default:
		one[i] = pick(r, someTokens...)
	}
	return strings.Join(one, " ")
}

// TestModelBindings takes sets of few names, so that many stand twice.
func TestModelBindings(t *testing.T) {
	r := rand.New(rand.NewPCG(11, 4))
	seen := map[api.Errno]int{}
	for range 60000 {
		s := ""
		for range r.IntN(5) {
			if r.IntN(5) == 0 {
				s += "inherit " + pick(r, "a", "b c", "c", "") + "; "
				continue
			}
			s += pick(r, "a", "b", "c", `"a"`, `"c"`)
			for range r.IntN(4) {
				s += "." + pick(r, "a", "b", "c", `"a"`)
			}
			s += " = " + pick(r, "1", "{ }", "{ a.b = 1; a.c = 2; }", "x", "") + "; "
		}
		seen[mustAgree(t, pick(r, "{ "+s+"}", "rec { "+s+"}", "let "+s+"in 1", "{ "+s))]++
	}
	mustHaveSeen(t, seen, 1000, api.OK, api.ErrTwice, api.ErrWord, api.ErrShort)
}

// TestModelDeep takes texts whose levels are about as many as there may be.
func TestModelDeep(t *testing.T) {
	r := rand.New(rand.NewPCG(11, 5))
	seen := map[api.Errno]int{}
	for range 20000 {
		text, end := "", ""
		row := 0
		for range 12 + r.IntN(22) {
			o := openings[r.IntN(len(openings))]
			if o.row < row && r.IntN(50) > 0 {
				text += "("
				end = ")" + end
			}
			text += o.open
			end = o.close + end
			row = o.into
			if r.IntN(100) == 0 {
				text += pick(r, someTokens...) + " "
			}
		}
		seen[mustAgree(t, text+"x"+end)]++
		mustAgree(t, text)
	}
	mustHaveSeen(t, seen, 1000, api.OK, api.ErrWord, api.ErrDeep)
}

// TestModelMany takes texts about the greatest number of nodes and the greatest length.
func TestModelMany(t *testing.T) {
	r := rand.New(rand.NewPCG(11, 6))
	seen := map[api.Errno]int{}
	for range 500 {
		text := "["
		for n := 2400 + r.IntN(1750); len(text) < n; {
			s := sentence(r, 0, r.IntN(4))
			if _, f := modelParse(s); f == nil {
				text += "(" + strings.ReplaceAll(s, " + ", "+") + ")a"
			}
		}
		seen[mustAgree(t, text+" ]")]++
		seen[mustAgree(t, text)]++
	}
	mustHaveSeen(t, seen, 10, api.OK, api.ErrNodes, api.ErrShort, api.ErrSource)
}

func FuzzParse(f *testing.F) {
	for _, s := range []string{"", "f x.y 1", "{ a.b = 1; c = 2; a.d = 3; }", "let a = 1; in a: a ? b", "[ a.b or c ]", "if a then b else c // d ++ -e"} {
		f.Add(s)
	}
	f.Fuzz(func(t *testing.T, text string) {
		mustAgree(t, text)
	})
}
