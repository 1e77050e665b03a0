package eval_test

import (
	"math/rand/v2"
	"reflect"
	"strings"
	"testing"

	"bootjack/api"
	"bootjack/eval"
	"bootjack/parse"
	"bootjack/print"
	"bootjack/value"
)

// A maker writes texts that mostly mean something: it knows of what kind a text
// is to be, and of what kind the names are that it may use. Sometimes it takes
// another kind, or a name that there is not.
type maker struct {
	*rand.Rand
	names []named
}

type named struct{ name, kind string }

var someKinds = []string{"int", "float", "bool", "string", "list", "set", "function", "null"}

func (g *maker) of(l ...string) string { return l[g.IntN(len(l))] }

func (g *maker) any() string { return g.of(someKinds...) }

// fill writes a text anew, each KIND in it by something of this kind.
func (g *maker) fill(deep int, form string) string {
	words := strings.Split(form, " ")
	for i, w := range words {
		switch w {
		case "INT", "FLOAT", "BOOL", "STRING", "LIST", "SET", "FUNCTION":
			words[i] = g.expr(strings.ToLower(w), deep)
		case "ANY":
			words[i] = g.expr(g.any(), deep)
		case "SIGN":
			words[i] = g.of("+", "-", "*", "/")
		case "CMP":
			words[i] = g.of("<", "<=", ">", ">=")
		case "EQ":
			words[i] = g.of("==", "!=")
		case "NAME":
			words[i] = g.of("a", "b", "c", "d", "_is", "value")
		case "QUOTED":
			words[i] = g.of(`"a"`, `"b"`, `"c"`, `"_is"`, `"rank"`)
		}
	}
	return "(" + strings.Join(words, " ") + ")"
}

// expr writes something of a kind.
func (g *maker) expr(kind string, deep int) string {
	if g.IntN(40) == 0 {
		kind = g.any()
	}
	if g.IntN(150) == 0 {
		return g.of("a", "b", "nothing", "x")
	}
	if len(g.names) > 0 && g.IntN(3) == 0 {
		if n := g.names[g.IntN(len(g.names))]; n.kind == kind {
			return n.name
		}
	}
	switch {
	case deep <= 0:
		return g.leaf(kind)
	case g.IntN(2) == 0:
		return g.general(kind, deep-1)
	}
	return g.fill(deep-1, g.of(ownForms(kind)...))
}

func (g *maker) leaf(kind string) string {
	switch kind {
	case "int":
		return g.of("0", "1", "2", "3", "(-1)", "9223372036854775807", "(-9223372036854775807 - 1)", "17")
	case "float":
		return g.of("0.0", "(-0.0)", "1.5", "nan", "inf", "9.3e18", "(-inf)", "2.0", "9007199254740993.0", "(-9.223372036854775808e18)")
	case "bool":
		return g.of("true", "false")
	case "string":
		return g.of(`""`, `"a"`, `"b"`, `"12"`, `"-007"`, `"+1"`, `"9223372036854775808"`, `"-9223372036854775808"`, `"-"`, `"1x"`)
	case "list":
		return g.of("[ ]", "[ 1 2 ]", `[ "a" "b" ]`, "[ true ]", "[ nan null ]", "[ [ ] { } ]")
	case "set":
		return g.of("{ }", "{ a = 1; }", `{ b = "x"; a = null; }`, "{ c = true; }", `{ _is = 1; "" = 2; }`)
	case "function":
		return g.of("(x: x)", "(x: 1)", "(x: true)", "length", "head", "typeOf", "toString", "toInt", "mkForce", "(seq 1)", "(item [ 1 2 ])", "mkIf", "(fold mkIf)")
	}
	return "null"
}

func ownForms(kind string) []string {
	switch kind {
	case "int":
		return []string{"INT SIGN INT", "INT SIGN INT", "- INT", "length LIST", "toInt FLOAT", "toInt STRING", "toInt INT", "fold (x: y: INT ) INT LIST", "fold (x: y: x + y) INT [ INT INT ]", "length (names SET )"}
	case "float":
		return []string{"FLOAT SIGN FLOAT", "INT SIGN FLOAT", "FLOAT SIGN INT", "- FLOAT", "toFloat INT", "toFloat FLOAT"}
	case "bool":
		return []string{"INT CMP INT", "FLOAT CMP INT", "STRING CMP STRING", "ANY EQ ANY", "LIST EQ LIST", "SET EQ SET", "INT EQ FLOAT", "[ ANY ANY ] EQ [ ANY ANY ]", "! BOOL", "BOOL && BOOL", "BOOL || BOOL", "SET ? NAME", "ANY ? NAME", "has QUOTED SET", "elem ANY LIST", "elem INT [ INT FLOAT INT ]", "{ a = ANY ; } EQ { a = ANY ; }"}
	case "string":
		return []string{"STRING + STRING", "join STRING [ STRING STRING STRING ]", "join STRING LIST", "toString ANY", "toString FLOAT", "typeOf ANY", "throw ANY"}
	case "list":
		return []string{"[ ANY ]", "[ ANY ANY ANY ]", "LIST ++ LIST", "tail LIST", "map FUNCTION LIST", "map (x: ANY ) LIST", "filter (x: BOOL ) LIST", "filter FUNCTION LIST", "names SET", "values SET", "let l = [ ANY ]; in l ++ l"}
	case "set":
		return []string{"{ a = ANY ; b = ANY ; }", "{ NAME = ANY ; }", "SET // SET", "rec { a = ANY ; b = a; c = ANY ; }", "mkIf BOOL ANY", "mkOverride INT ANY", "mkOrder INT ANY", "mkForce ANY", "mkDefault ANY", "mkMerge LIST", "mkOption SET", "let a = ANY ; in { inherit a; b.c = ANY ; b.a = a; }", "let b = ANY ; in rec { inherit b; a = b; }"}
	case "function":
		return []string{"x: ANY", "a: ANY", "map FUNCTION", "filter FUNCTION", "fold FUNCTION ANY", "elem ANY", "has QUOTED", "get QUOTED", "join STRING", "mkIf BOOL", "x: FUNCTION", "item LIST"}
	}
	return []string{"null"}
}

// general writes what may be of any kind. Names that it binds are known in what
// stands in the middle.
func (g *maker) general(kind string, deep int) string {
	k := strings.ToUpper(kind)
	if kind == "null" {
		k = "null"
	}
	name, bound := g.of("a", "b", "c", "x", "y", "true", "length"), g.any()
	b := strings.ToUpper(bound)
	if bound == "null" {
		b = "null"
	}
	within := func() string {
		was := g.names
		g.names = append(g.names[:len(g.names):len(g.names)], named{name, bound})
		s := g.fill(deep, k)
		g.names = was
		return s
	}
	switch g.IntN(12) {
	case 0:
		return "(let " + name + " = " + g.fill(deep, b) + "; in " + within() + ")"
	case 1:
		return "(let " + name + " = " + g.of(within(), g.fill(deep, b)) + "; in " + within() + ")"
	case 2:
		return "((" + name + ": " + within() + ") " + g.fill(deep, b) + ")"
	case 3:
		return "(with { " + name + " = " + g.fill(deep, b) + "; }; " + within() + ")"
	case 4:
		return "(with " + g.fill(deep, "SET") + "; " + within() + ")"
	case 5:
		return "(let f = n: if n <= 0 then " + within() + " else f (n - 1); in f " + g.of("0", "1", "2", "5", "20", "90", "98", "120") + ")"
	}
	return g.fill(deep, g.of(
		"if BOOL then "+k+" else "+k, "assert BOOL ; "+k, "{ a = "+k+" ; b = ANY ; }.a", "rec { a = b; b = "+k+" ; }.a",
		"SET .a or "+k, "head [ "+k+" ANY ]", "item [ ANY "+k+" ANY ] 1", `get "a" { a = `+k+" ; b = ANY ; }", "seq ANY "+k,
		"fold (x: y: "+k+" ) "+k+" LIST", "(mkIf BOOL "+k+" ).value", "(x: y: "+k+" ) ANY ANY", "fold seq "+k+" [ ANY "+k+" ]", "head (map (x: "+k+" ) [ ANY ANY ])", "SET .a", "get QUOTED SET"))
}

// check holds Eval against the model, with a fuel.
func check(t *testing.T, text string, f []api.Node, fuel int) (int, api.Errno) {
	t.Helper()
	v, n, err := eval.Eval(f, fuel)
	want, steps, fault := modelEval(f, fuel)
	got, _ := err.(*api.Fault)
	if fault == nil && err != nil || fault != nil && (got == nil || *got != *fault) || n != steps || !value.Same(v, want) {
		t.Fatalf("%s, fuel %d: %s, %d steps, %v at %+v; must be %s, %d steps, %+v", text, fuel, value.Show(v), n, err, got, value.Show(want), steps, fault)
	}
	if fault != nil {
		return n, fault.Err
	}
	if !value.Right(v) {
		t.Fatalf("%s: %+v is not right", text, v)
	}
	return n, api.OK
}

func TestE3Model(t *testing.T) {
	r := rand.New(rand.NewPCG(15, 1))
	told, long := map[api.Errno]int{}, 0
	for range 20000 {
		g := &maker{Rand: r}
		text := g.expr(g.any(), 1+r.IntN(6))
		f, err := parse.Parse(text)
		if err != nil {
			continue
		}
		n, e := check(t, text, f, 2000)
		told[e]++
		if n > 100 {
			long++
		}
		check(t, text, f, n)
		if n > 0 {
			_, e = check(t, text, f, r.IntN(n))
			if e != api.ErrFuel {
				t.Fatalf("%s: with less fuel: %v", text, e)
			}
		}
	}
	for _, e := range []api.Errno{api.OK, api.ErrType, api.ErrName, api.ErrAttr, api.ErrLoop, api.ErrOver, api.ErrZero, api.ErrAssert, api.ErrThrow, api.ErrEmpty, api.ErrNumber, api.ErrDeep} {
		if told[e] < 10 {
			t.Errorf("%v was told %d times", e, told[e])
		}
	}
	if told[api.OK] < 6000 || long < 300 {
		t.Errorf("%d had a value, %d took more than 100 steps", told[api.OK], long)
	}
}

// Any nodes that are right, without regard to what they mean.
func TestE3ModelOfAnyNodes(t *testing.T) {
	r := rand.New(rand.NewPCG(15, 2))
	told := map[api.Errno]int{}
	for range 20000 {
		f := someNodes(r, nil, 1+r.IntN(6))
		if len(f) > api.MaxNodes {
			continue
		}
		n, e := check(t, "some nodes", f, 3000)
		told[e]++
		check(t, "some nodes", f, r.IntN(n+1))
	}
	if told[api.OK] < 2000 || told[api.ErrType] < 1000 || told[api.ErrName] < 1000 {
		t.Errorf("%v", told)
	}
}

// someNodes puts those of any expression behind others.
func someNodes(r *rand.Rand, l []api.Node, deep int) []api.Node {
	pick := func(l ...string) string { return l[r.IntN(len(l))] }
	n := api.Node{Kind: 1 + r.IntN(18), At: r.IntN(1000)}
	if deep == 0 {
		n.Kind = []int{api.NInt, api.NFloat, api.NString, api.NName, api.NName, api.NName}[r.IntN(6)]
	}
	kids := map[int]int{api.NSelect: 1 + r.IntN(2), api.NHas: 1, api.NCall: 2, api.NLambda: 1, api.NWith: 2, api.NIf: 3, api.NAssert: 2, api.NNot: 1, api.NNeg: 1, api.NBinary: 2, api.NList: r.IntN(4)}[n.Kind]
	switch n.Kind {
	case api.NInt:
		n.Int = int64(r.IntN(4))
	case api.NFloat:
		n.Float = float64(r.IntN(4)) / 2
	case api.NString, api.NSelect, api.NHas:
		n.Text = pick("a", "b", "", "c")
	case api.NName:
		n.Text = pick("a", "b", "c", "true", "false", "map", "head", "length", "seq", "mkIf", "names", "elem")
	case api.NLambda:
		n.Text = pick("a", "b", "c", "true", "map")
	case api.NBinary:
		n.Text = pick("||", "&&", "==", "!=", "<", "<=", ">", ">=", "//", "+", "-", "*", "/", "++")
	case api.NSet, api.NRec, api.NLet:
		for _, name := range []string{"b", "a", "c"} {
			if r.IntN(2) == 0 {
				n.Names = append(n.Names, name)
			}
		}
		for _, name := range n.Names {
			if r.IntN(4) == 0 {
				l = append(l, api.Node{Kind: api.NInherit, Text: name, At: r.IntN(1000)})
			} else {
				l = someNodes(r, l, deep-1)
			}
			n.Kids = append(n.Kids, len(l)-1)
		}
		if n.Kind == api.NLet {
			kids = 1
		}
	}
	for range kids {
		l = someNodes(r, l, deep-1)
		n.Kids = append(n.Kids, len(l)-1)
	}
	return append(l, n)
}

// FuzzE3 takes any text that can be read.
func FuzzE3(f *testing.F) {
	for _, s := range []string{"let f = n: if n == 0 then 0 else n + f (n - 1); in f 10", "with { a = 1; }; rec { b = a; inherit a; }.b or 5", "map (x: x * x) [ 1 2.5 ]", "fold (a: x: a + x) \"\" (names { b = 1; })", "[ nan ] == [ nan ] || !(elem 1 [ ])", "join \", \" (map toString [ 1 true null ])", "mkOption { } // mkIf 1 2", "let l = [ l ]; in l == l"} {
		f.Add(s, 300)
	}
	f.Fuzz(func(t *testing.T, s string, fuel int) {
		l, err := parse.Parse(s)
		if err != nil || !print.Right(l) || fuel < 0 || fuel > 5000 {
			return
		}
		kept := append([]api.Node{}, l...)
		check(t, s, l, fuel)
		if !reflect.DeepEqual(l, kept) {
			t.Fatalf("%s: the nodes were changed", s)
		}
	})
}
