package eval_test

import (
	"math/rand/v2"
	"testing"

	"bootjack/api"
	"bootjack/eval"
	"bootjack/parse"
	"bootjack/value"
)

// stepRows are texts and how many steps they take, counted by hand.
func stepRows() map[string]int {
	return map[string]int{
		"1": 2, "1.5": 2, `"a"`: 2, "true": 2, "length": 2, "x: y": 2, "[ ]": 2, "{ }": 2,
		"1 + 2": 4, "-1": 3, "!true": 3, "[ 1 2 ]": 6, "{ a = 1; }": 4, "[ [ ] ]": 4,
		"let x = 1 / 0; in 2": 3, "let x = 1 + 1; in x + x": 8, "rec { a = b; b = 1; }.a": 5, "rec { a = b; b = 1; }": 6, "let a = 1; in { inherit a; }": 6,
		"if true then 1 else 2": 4, "assert true; 1": 4, "true || y": 3, "false || true": 4, "false && y": 3, "true && true": 4,
		"{ a = 1; }.a": 4, "{ }.a or 5": 4, "{ a = 1; }.a or 5": 4, "{ a = 1; } ? a": 3,
		"(x: x) 1": 5, "(x: 2) 1": 4, "with { a = 1; }; a": 5, "with { a = 1; }; 2": 3, "with { a = 1; }; with { b = 2; }; a": 7, "with { a = 1; }; [ a a ]": 9,
		// Comparing takes a step for each two things.
		"1 == 2": 5, "1 < 2": 4, "1 <= 1": 4, "[ 1 ] == [ 1 ]": 8, "[ 1 2 ] != [ 3 2 ]": 8, "[ ] == { }": 5, "[ 1 ] == [ 1 2 ]": 5, "{ a = 1; } == { b = 1; }": 5, "let x = [ 1 ]; in x == x": 9,
		// A built-in takes one when it is run, none when it wants more.
		"length [ 1 (2 / 0) ]": 5, "seq 1": 3, "seq 1 2": 7, "toInt 1": 5, "map (x: x) [ 1 ]": 10, "map (x: x) [ ]": 6, "filter (x: true) [ 1 ]": 10, "fold (a: x: a) 0 [ 1 ]": 11, "fold y 0 [ ]": 8,
		"elem 1 [ 1 (1 / 0) ]": 9, "elem 1 [ ]": 6, "elem 1 [ 2 1 ]": 11, "names { a = 1; }": 6, "values { a = 1; }": 7, "join \",\" [ \"a\" \"b\" ]": 9, "mkIf true 1": 10, "mkMerge 1": 7, "mkForce 1": 8, "head [ 1 2 ]": 6, "item [ 1 2 ] 1": 8, "get \"a\" { a = 1; }": 8,
	}
}

func TestE3Steps(t *testing.T) {
	for s, want := range stepRows() {
		if _, n, err := eval.Eval(parsed(t, s), api.MaxFuel); err != nil || n != want {
			t.Errorf("%s: %d steps, %v; must be %d", s, n, err, want)
		}
	}
}

// errorRows are texts that are wrong, and the steps up to there.
func errorRows() map[string]int {
	return map[string]int{"1 / 0": 4, "y": 2, "[ 1 y ]": 6, "1 2": 3, "{ }.a": 3, "assert false; 1": 3, "throw \"a\"": 5, "let x = x; in x": 4, "(x: x) == (x: x)": 5, "head [ ]": 5, "if 1 then 2 else 3": 3, "map 1 [ 2 ]": 8}
}

// With more fuel than was needed the answer is the same, with less it is
// ErrFuel, also where the answer is another error.
func TestE3Fuel(t *testing.T) {
	check := func(s string, want int) {
		f := parsed(t, s)
		v, n, err := eval.Eval(f, api.MaxFuel)
		for _, fuel := range []int{want, want + 1, 10 * want} {
			w, k, bad := eval.Eval(f, fuel)
			if n != want || k != want || !value.Same(v, w) || faultOf(err) != faultOf(bad) {
				t.Errorf("%s: %d steps, %+v; with fuel %d %d steps, %+v; must be %d", s, n, faultOf(err), fuel, k, faultOf(bad), want)
			}
		}
		for fuel := range want {
			w, k, bad := eval.Eval(f, fuel)
			if k != fuel || faultOf(bad).Err != api.ErrFuel || !value.Same(w, api.Value{}) {
				t.Errorf("%s, fuel %d: %s, %d steps, %+v", s, fuel, value.Show(w), k, faultOf(bad))
			}
		}
	}
	for s, want := range stepRows() {
		check(s, want)
	}
	for s, want := range errorRows() {
		check(s, want)
	}
}

// The step is the first thing that is done in evaluating a node: where it can't
// be taken, that node is under way.
func TestE3PlaceOfErrFuel(t *testing.T) {
	for _, c := range []struct {
		text   string
		places []int // by the fuel
	}{
		{"  1", []int{0, 2}},
		{"  1 + 2", []int{0, 4, 2, 6}},
		{" [ 1 ]", []int{0, 1, 0, 3}},
		{"  length [ ]", []int{0, 2, 2, 2, 9}},
		{"  seq 1 2", []int{0, 2, 2, 2, 2, 6, 8}},
		{" 1 == 2", []int{0, 3, 1, 6, 3}},
		{" let x = 5; in -x", []int{0, 1, 15, 16, 9}},
		{" elem 1 [ 2 ]", []int{0, 1, 1, 1, 1, 8, 1, 6, 10}},
	} {
		f := parsed(t, c.text)
		for fuel, at := range c.places {
			if _, _, err := eval.Eval(f, fuel); faultOf(err) != (api.Fault{At: at, Err: api.ErrFuel}) {
				t.Errorf("%s, fuel %d: %+v; must be ErrFuel at %d", c.text, fuel, faultOf(err), at)
			}
		}
		if _, n, err := eval.Eval(f, len(c.places)); err != nil || n != len(c.places) {
			t.Errorf("%s: %d steps, %v", c.text, n, err)
		}
	}
}

// `let x = a; in b` is `(x: b) a`, where x does not stand in a: but for a step.
func TestE3LetIsCall(t *testing.T) {
	r := rand.New(rand.NewPCG(15, 3))
	seen := map[bool]int{}
	for range 4000 {
		g := &maker{Rand: r}
		a := g.expr("int", 2)
		g.names = []named{{"q", "int"}}
		b := g.expr(g.any(), 4)
		let, bad := parse.Parse("let q = " + a + "; in " + b)
		call, worse := parse.Parse("(q: " + b + ") " + a)
		if bad != nil || worse != nil {
			continue
		}
		v, n, err := eval.Eval(let, 5000)
		w, k, fault := eval.Eval(call, 5001)
		if !value.Same(v, w) || faultOf(err).Err != faultOf(fault).Err || n+1 != k {
			t.Fatalf("%s, %s: %s, %d, %+v; called %s, %d, %+v", a, b, value.Show(v), n, faultOf(err), value.Show(w), k, faultOf(fault))
		}
		seen[err == nil]++
	}
	if seen[true] < 500 || seen[false] < 100 {
		t.Errorf("%v", seen)
	}
}
