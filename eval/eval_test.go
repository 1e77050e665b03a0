package eval_test

import (
	"errors"
	"math"
	"strings"
	"testing"

	"bootjack/api"
	"bootjack/eval"
	"bootjack/parse"
	"bootjack/value"
)

func parsed(t *testing.T, text string) []api.Node {
	t.Helper()
	f, err := parse.Parse(text)
	if err != nil {
		t.Fatalf("%q: %+v", text, err)
	}
	return f
}

// faultOf is the fault that an error of Eval is.
func faultOf(err error) api.Fault {
	var f *api.Fault
	if !errors.As(err, &f) {
		return api.Fault{At: -1}
	}
	return *f
}

// told is a text, and what its value is shown as.
type told struct{ text, shown string }

func checkTold(t *testing.T, rows ...told) {
	t.Helper()
	for _, r := range rows {
		v, _, err := eval.Eval(parsed(t, r.text), api.MaxFuel)
		if err != nil || value.Show(v) != r.shown {
			t.Errorf("%s: %s, %+v; must be %s", r.text, value.Show(v), faultOf(err), r.shown)
		}
	}
}

// wrong is a text, and what is wrong where.
type wrong struct {
	text string
	e    api.Errno
	at   int
}

func checkWrong(t *testing.T, rows ...wrong) {
	t.Helper()
	for _, r := range rows {
		v, _, err := eval.Eval(parsed(t, r.text), api.MaxFuel)
		if faultOf(err) != (api.Fault{At: r.at, Err: r.e}) || !value.Same(v, api.Value{}) {
			t.Errorf("%s: %s, %+v; must be error %d at %d", r.text, value.Show(v), faultOf(err), r.e, r.at)
		}
	}
}

func TestE3Examples(t *testing.T) {
	checkTold(t, []told{
		{"1 + 2", "3"},
		{"let x = 1 / 0; in 2", "2"},
		{"rec { a = b + 1; b = 2; }.a", "3"},
		{"(f: f 1) (x: { y = x; })", `{ "y"=1; }`},
		{"map (x: x * x) [ 1 2 3 ]", "[ 1 4 9 ]"},
		{"with { a = 1; }; let a = 2; in a", "2"},
		{"let f = n: if n == 0 then 0 else n + f (n - 1); in f 10", "55"},
		{"0.0 / 0.0 == nan", "false"},
		{"nan != nan", "true"},
		{"1 == 1.0", "true"},
		{"0.0 - 0.0 == -0.0", "true"},
		{"-0.0", "-0.0"},
	}...)
	checkWrong(t, []wrong{
		{"let x = x; in x", api.ErrLoop, 8},
		{"1 / 0", api.ErrZero, 2},
		{"{ a = 1; }.b", api.ErrAttr, 10},
		{"y", api.ErrName, 0},
		{"1 2", api.ErrType, 0},
		{"9223372036854775807 + 1", api.ErrOver, 20},
	}...)
}

func TestE3PlainNodes(t *testing.T) {
	checkTold(t, []told{
		{"7", "7"}, {"1.50", "1.5"}, {`"a\n"`, `"a\n"`}, {"[ ]", "[ ]"}, {"{ }", "{ }"}, {"rec { }", "{ }"}, {"let in 1", "1"}, {"x: x", "function"},
		{`[ 1 [ "a" ] (x: x) null ]`, `[ 1 [ "a" ] function null ]`},
		{`{ b = 1; a = 2; "" = 3; c.d = 4; }`, `{ ""=3; "a"=2; "b"=1; "c"={ "d"=4; }; }`},
		{"rec { c = 1; b = c + 1; a = b + 1; }", `{ "a"=3; "b"=2; "c"=1; }`},
		{"-5", "-5"}, {"--5", "5"}, {"-1.5", "-1.5"}, {"-inf", "-inf"}, {"-nan", "nan"}, {"!true", "false"}, {"!!true", "true"},
	}...)
	checkWrong(t, []wrong{
		{"[ y ]", api.ErrName, 2}, {"{ a = y; }", api.ErrName, 6}, {"{ b = 1 / 0; a = y; }", api.ErrName, 17}, {"[ y (1 / 0) ]", api.ErrName, 2},
		{"!1", api.ErrType, 0}, {" !null", api.ErrType, 1}, {"!y", api.ErrName, 1},
		{`-"a"`, api.ErrType, 0}, {"-true", api.ErrType, 0}, {"-[ ]", api.ErrType, 0}, {"-(x: x)", api.ErrType, 0}, {"-(-9223372036854775807 - 1)", api.ErrOver, 0},
	}...)
}

func TestE3Conditions(t *testing.T) {
	checkTold(t, []told{
		{"if 1 < 2 then 1 else 1 / 0", "1"}, {"if false then 1 / 0 else 2", "2"}, {"assert true; 5", "5"},
		{"true && false", "false"}, {"true && true", "true"}, {"false && 1", "false"}, {"false && 1 / 0 == 1", "false"},
		{"false || true", "true"}, {"false || false", "false"}, {"true || 1", "true"}, {"true || y", "true"},
	}...)
	checkWrong(t, []wrong{
		{"if 1 then 2 else 3", api.ErrType, 0}, {"if null then 2 else 3", api.ErrType, 0}, {"if y then 2 else 3", api.ErrName, 3}, {"if true then y else 3", api.ErrName, 13}, {"if false then 1 else y", api.ErrName, 21},
		{"assert false; 1", api.ErrAssert, 0}, {"assert 1; 1", api.ErrType, 0}, {"assert false; y", api.ErrAssert, 0}, {"assert true; y", api.ErrName, 13}, {"1 + (assert 1 == 2; 1)", api.ErrAssert, 5},
		{"1 && true", api.ErrType, 2}, {"true && 1", api.ErrType, 5}, {"null || true", api.ErrType, 5}, {`false || ""`, api.ErrType, 6}, {"y && 1", api.ErrName, 0}, {"1 && y", api.ErrType, 2}, {"true && y", api.ErrName, 8},
	}...)
}

// Names are looked up from the innermost scope outwards.
func TestE3Names(t *testing.T) {
	checkTold(t, []told{
		{"let a = 1; in let a = 2; in a", "2"},
		{"let a = 1; in { a = 2; b = a; }.b", "1"},
		{"let a = 1; in rec { a = 2; b = a; }.b", "2"},
		{"let a = 1; in { inherit a; }", `{ "a"=1; }`},
		{"let a = 1; in rec { inherit a; b = a; }", `{ "a"=1; "b"=1; }`},
		{"let a = 1; in let inherit a; b = a; in b", "1"},
		{"let a = 1; in rec { inherit a; c = { inherit a; }; }.c", `{ "a"=1; }`},
		{"rec { a = 1; b = rec { a = 2; c = a; }; }.b.c", "2"},
		{"let z = 3; a = z; y = a; in y", "3"},
		{"(x: y: x - y) 5 3", "2"}, {"(x: x: x) 1 2", "2"},
		{"let a = 1; in (a: a) 2", "2"},
		{"let b = 5; f = a: b; in let b = 6; in f 0", "5"},
		{"let true = 1; in true", "1"}, {"(null: null) 2", "2"}, {"rec { length = 1; a = length; }.a", "1"}, {"{ length = 1; a = length; }.a", "function"},
	}...)
	checkWrong(t, []wrong{
		{" y", api.ErrName, 1}, {"let a = 1; in b", api.ErrName, 14}, {"(x: y) 1", api.ErrName, 4}, {"{ inherit y; }", api.ErrName, 10}, {"rec { inherit y; }.y", api.ErrName, 14}, {"let inherit y; in y", api.ErrName, 12}, {"{ a = 1; b = a; }", api.ErrName, 13}, {"((x: 1) 1) + x", api.ErrName, 13},
	}...)
}

// Names of a set that is with a scope count less than all that stand in the
// text, and less than the built-ins.
func TestE3With(t *testing.T) {
	checkTold(t, []told{
		{"with { a = 1; }; a", "1"},
		{"let a = 1; in with { a = 2; }; a", "1"},
		{"(a: with { a = 2; }; a) 1", "1"},
		{"rec { a = 1; b = with { a = 2; }; a; }.b", "1"},
		{"with { a = 2; }; with { b = 1; }; a", "2"},
		{"with { x = 1; }; with { x = 2; }; x", "2"},
		{"with { true = 1; length = 2; }; [ true length ]", "[ true function ]"},
		{"with { a = 1; }; { inherit a; }", `{ "a"=1; }`},
		{"with { a = 1; }; rec { b = a; }", `{ "b"=1; }`},
		{"let f = with { a = 1; }; x: a + x; in with { a = 5; }; f 1", "2"},
		{"with 1 / 0; 5", "5"}, {`with throw "x"; true`, "true"}, {"let a = 1; in with 7; a", "1"},
		{"with 7; with { a = 1; }; a", "1"},
	}...)
	checkWrong(t, []wrong{
		{"with { a = 1; }; b", api.ErrName, 17}, {"with { }; with { }; b", api.ErrName, 20}, {"(with { a = 1; }; 1) + a", api.ErrName, 23},
		{"with 1; a", api.ErrType, 8}, {"with { a = 1; }; with 2; a", api.ErrType, 25}, {"with 2; with { a = 1; }; b", api.ErrType, 25}, {"with y; a", api.ErrName, 5}, {"with { a = 1 / 0; }; a", api.ErrZero, 13},
	}...)
}

func TestE3Attributes(t *testing.T) {
	checkTold(t, []told{
		{"{ a = 1; }.a", "1"}, {"{ a = 1; }.a or 5", "1"}, {"{ }.a or 5", "5"}, {"1 .a or 5", "5"}, {"(x: x).a or 5", "5"}, {"{ a.b = 1; }.a.b", "1"}, {"{ a = 1; }.a.b or 2", "2"}, {"{ a = { }; }.a.b or 2", "2"}, {`{ "x y" = 1; }."x y"`, "1"}, {"{ a = 1; }.a or (1 / 0)", "1"}, {"{ b = 1 / 0; a = 2; }.a", "2"},
		{"{ a = 1 / 0; } ? a", "true"}, {"{ } ? a", "false"}, {"1 ? a", "false"}, {"[ ] ? a", "false"}, {"null ? a", "false"}, {"(x: x) ? a", "false"}, {`"a" ? a`, "false"},
	}...)
	checkWrong(t, []wrong{
		{"{ }.a", api.ErrAttr, 3}, {"1 .a", api.ErrType, 2}, {"[ ].a", api.ErrType, 3}, {"{ a = 1; }.a.b", api.ErrType, 12}, {"{ a = { }; }.a.b", api.ErrAttr, 14}, {"{ }.a or y", api.ErrName, 9}, {"y.a or 5", api.ErrName, 0}, {"y ? a", api.ErrName, 0}, {"{ a = y; }.a or 5", api.ErrName, 6},
	}...)
}

func TestE3Calls(t *testing.T) {
	checkTold(t, []told{
		{"(x: 1) (1 / 0)", "1"}, {"(x: x) 1", "1"}, {"let k = x: y: x; in k 1 y", "1"}, {"(f: f (f 1)) (x: x + 1)", "3"},
		{"let h = item [ 1 2 ]; in h 0 + h 1", "3"}, {"let f = fold (a: x: a + x); g = f 0; in [ (g [ 1 ]) (g [ 2 3 ]) (f 1 [ ]) ]", "[ 1 5 1 ]"}, {"let f = fold (a: x: a + x); g = f 0; h = f 100; in [ (g [ 1 ]) (h [ 1 ]) (g [ 2 ]) ]", "[ 1 101 2 ]"}, {"map (mkIf true) [ 1 ]", `[ { "_is"="if"; "value"=1; "when"=true; } ]`},
	}...)
	checkWrong(t, []wrong{
		{"1 2", api.ErrType, 0}, {"{ } 1", api.ErrType, 0}, {"(1 2) 3", api.ErrType, 1}, {`  "f" 1`, api.ErrType, 2}, {"y 1", api.ErrName, 0}, {"(x: x) 1 2", api.ErrType, 1},
		{`let f = x: x + 1; in f "a"`, api.ErrType, 13}, {"let f = x: x.a; in [ (f { }) ]", api.ErrAttr, 12}, {"let x = 1 / 0; in x + x", api.ErrZero, 10},
	}...)
}

func TestE3Loops(t *testing.T) {
	checkTold(t, []told{
		{"let l = [ 1 l ]; in head l", "1"}, {"let s = { a = s.b; b = 1; }; in s.a", "1"}, {"rec { a = [ b ]; b = length a; }", `{ "a"=[ 1 ]; "b"=1; }`}, {"let f = x: if x then f false else 1; in f true", "1"}, {"let x = if true then 1 else x; in x", "1"},
	}...)
	checkWrong(t, []wrong{
		{"let x = x; in x", api.ErrLoop, 8}, {"let x = y; y = x; in x", api.ErrLoop, 15}, {"rec { a = a; }.a", api.ErrLoop, 10}, {"let x = x + 1; in x", api.ErrLoop, 8}, {"let f = x: x; a = f a; in a", api.ErrLoop, 20}, {"let a = { b = a.b; }; in a.b", api.ErrLoop, 15}, {"with rec { a = a; }; a", api.ErrLoop, 15}, {"let s = s // { a = 1; }; in s", api.ErrLoop, 8}, {"let l = map (x: head l) [ 1 ]; in l", api.ErrLoop, 16},
	}...)
}

func TestE3Signs(t *testing.T) {
	checkTold(t, []told{
		{"7 / 2", "3"}, {"-7 / 2", "-3"}, {"7 / 2.0", "3.5"}, {"1.0 / 0", "inf"}, {"2 - 3", "-1"}, {"2 * 3", "6"}, {"2 * 1.5", "3.0"}, {`"a" + "b"`, `"ab"`},
		{"[ 1 ] ++ [ 2 ] ++ [ ]", "[ 1 2 ]"}, {"[ ] ++ [ ]", "[ ]"}, {"length ([ (1 / 0) ] ++ [ y ])", "2"},
		{"{ a = 1; b = 1; } // { b = 2; c = 3; }", `{ "a"=1; "b"=2; "c"=3; }`}, {"{ } // { }", "{ }"}, {"{ a = 1 / 0; } // { a = 1; }", `{ "a"=1; }`}, {"{ a = 1; } // { a = 2; } // { a = 3; }", `{ "a"=3; }`},
		{"1 < 2", "true"}, {"2 < 1", "false"}, {"1 < 1", "false"}, {"2 > 1", "true"}, {"1 > 2", "false"}, {"1 > 1", "false"}, {"1 <= 1", "true"}, {"1 <= 0", "false"}, {"0 <= 1", "true"}, {"1 >= 1", "true"}, {"0 >= 1", "false"}, {"1 >= 0", "true"},
		{"1 <= 1.0", "true"}, {"1.5 >= 1", "true"}, {`"a" < "b"`, "true"}, {`"a" >= "a"`, "true"}, {`"b" <= "a"`, "false"}, {`"a" > ""`, "true"}, {"nan <= nan", "false"}, {"nan >= nan", "false"}, {"nan < 1", "false"}, {"nan > 1", "false"}, {"0.0 <= -0.0", "true"}, {"9007199254740993 >= 9007199254740992.0", "true"},
	}...)
	checkWrong(t, []wrong{
		{"  1 + true", api.ErrType, 4}, {`"a" - "b"`, api.ErrType, 4}, {`1 + "a"`, api.ErrType, 2}, {"[ ] + [ ]", api.ErrType, 4}, {"{ } * 1", api.ErrType, 4}, {"(x: x) / 1", api.ErrType, 7}, {"null + null", api.ErrType, 5},
		{"[ ] ++ 1", api.ErrType, 4}, {"1 ++ [ ]", api.ErrType, 2}, {"{ } ++ { }", api.ErrType, 4}, {"{ } // 1", api.ErrType, 4}, {"1 // { }", api.ErrType, 2}, {"[ ] // [ ]", api.ErrType, 4},
		{`1 < "a"`, api.ErrType, 2}, {"true < false", api.ErrType, 5}, {"null <= null", api.ErrType, 5}, {"[ ] >= [ ]", api.ErrType, 4}, {"{ } > { }", api.ErrType, 4}, {"(x: x) <= (x: x)", api.ErrType, 7},
		{"1 / 0", api.ErrZero, 2}, {"9223372036854775807 * 2", api.ErrOver, 20}, {"-9223372036854775807 - 2", api.ErrOver, 21},
	}...)
}

func TestE3Compared(t *testing.T) {
	checkTold(t, []told{
		{"1 == 1", "true"}, {"1 == 2", "false"}, {"1 != 2", "true"}, {`1 == "1"`, "false"}, {"null == null", "true"}, {"null == false", "false"}, {"true == 1", "false"}, {`"a" == "a"`, "true"},
		{"[ 1 2 ] == [ 1 2.0 ]", "true"}, {"[ 1 2 ] == [ 1 3 ]", "false"}, {"[ 1 ] == [ 1 1 ]", "false"}, {"[ ] == { }", "false"}, {"[ ] == [ ]", "true"}, {"{ } == { }", "true"}, {"[ 1 ] == { a = 1; }", "false"},
		{"{ a = 1; } == { a = 1; }", "true"}, {"{ a = 1; } == { b = 1; }", "false"}, {"{ a = 1; } == { a = 1; b = 1; }", "false"}, {"{ a = [ 1 ]; } != { a = [ 2 ]; }", "true"},
		{"(x: x) == 1", "false"}, {"[ (x: x) ] == [ ]", "false"}, {"[ 1 (x: x) ] == [ 2 (x: x) ]", "false"}, {"{ a = x: x; } == { b = x: x; }", "false"}, {"length == 1", "false"},
		{"[ (1 / 0) ] == [ 1 2 ]", "false"}, {"{ a = 1 / 0; } == { b = 1; }", "false"}, {"[ 1 (1 / 0) ] == [ 2 1 ]", "false"}, {"[ [ 1 2 ] y ] == [ [ 1 3 ] y ]", "false"}, {"let x = [ nan ]; in x == x", "false"},
	}...)
	checkWrong(t, []wrong{
		{"(x: x) == (x: x)", api.ErrType, 7}, {"length != length", api.ErrType, 7}, {"[ 1 (x: x) ] == [ 1.0 (x: x) ]", api.ErrType, 13}, {"{ a = length; } != { a = head; }", api.ErrType, 16}, {"let f = x: x; in f == f", api.ErrType, 19},
		{"let l = [ l ]; in l == l", api.ErrFuel, 20},
		{"1 == y", api.ErrName, 5}, {"[ y ] == [ (1 / 0) ]", api.ErrName, 2}, {"[ 1 y ] == [ 1 (1 / 0) ]", api.ErrName, 4}, {"{ b = y; a = 1 / 0; } == { a = 1; b = 2; }", api.ErrZero, 15},
	}...)
}

// The left one is evaluated first, and both ahead of what is done with them.
func TestE3LeftFirst(t *testing.T) {
	for _, sign := range strings.Fields("== != < <= > >= // + - * / ++") {
		checkWrong(t, wrong{"(1 / 0) " + sign + " y", api.ErrZero, 3}, wrong{"y " + sign + " (1 / 0)", api.ErrName, 0}, wrong{"null " + sign + " y", api.ErrName, 6 + len(sign)})
	}
}

func TestE3Lists(t *testing.T) {
	checkTold(t, []told{
		{"length [ ]", "0"}, {"length [ 1 y ]", "2"}, {"head [ 1 y ]", "1"}, {"tail [ y 2 3 ]", "[ 2 3 ]"}, {"tail [ y ]", "[ ]"}, {"head (tail [ 1 2 ])", "2"},
		{"item [ 1 2 ] 0", "1"}, {"item [ 1 2 ] 1", "2"}, {"item [ y 2 ] 1", "2"},
		{"map (x: x + 1) [ 1 2 ]", "[ 2 3 ]"}, {"map y [ ]", "[ ]"}, {"length (map y [ 1 2 ])", "2"}, {"map length [ [ ] [ y ] ]", "[ 0 1 ]"},
		{"filter (x: x < 3) [ 1 5 2 ]", "[ 1 2 ]"}, {"filter y [ ]", "[ ]"}, {"filter (x: false) [ y ]", "[ ]"}, {"length (filter (x: true) [ y ])", "1"},
		{"fold (a: x: a + x) 0 [ 1 2 3 ]", "6"}, {`fold (a: x: a + x) "" [ "a" "b" "c" ]`, `"abc"`}, {"fold y 5 [ ]", "5"}, {"fold (a: x: x) y [ 1 ]", "1"}, {"fold (a: x: [ a x ]) 0 [ 1 2 ]", "[ [ 0 1 ] 2 ]"},
		{"elem 2.0 [ 1 2 ]", "true"}, {"elem 3 [ 1 2 ]", "false"}, {"elem y [ ]", "false"}, {"elem 1 [ 1 y ]", "true"}, {"elem nan [ nan ]", "false"}, {"elem [ 1 ] [ [ ] [ 1 ] ]", "true"}, {"elem length [ 1 ]", "false"},
	}...)
	checkWrong(t, []wrong{
		{"head [ ]", api.ErrEmpty, 0}, {"tail [ ]", api.ErrEmpty, 0}, {" head (tail [ 1 ])", api.ErrEmpty, 1}, {"item [ 1 ] 1", api.ErrEmpty, 0}, {"item [ 1 ] (-1)", api.ErrEmpty, 0}, {"item [ ] 0", api.ErrEmpty, 0}, {"item [ 1 ] 9223372036854775807", api.ErrEmpty, 0},
		{"length 1", api.ErrType, 0}, {"head { }", api.ErrType, 0}, {`tail "a"`, api.ErrType, 0}, {"item 1 0", api.ErrType, 0}, {"item [ 1 ] 0.0", api.ErrType, 0}, {"map length 1", api.ErrType, 0}, {"filter length { }", api.ErrType, 0}, {"fold length 0 null", api.ErrType, 0}, {"elem 1 1", api.ErrType, 0},
		{"filter (x: 1) [ 1 ]", api.ErrType, 0}, {"filter 1 [ 1 ]", api.ErrType, 0}, {"fold 1 2 [ 3 ]", api.ErrType, 0}, {"fold (a: a) 2 [ 3 ]", api.ErrType, 0}, {"elem length [ 1 head ]", api.ErrType, 0}, {"head [ y ]", api.ErrName, 7}, {"filter (x: x) [ true y ]", api.ErrName, 21},
		// What is forced first.
		{"item (1 / 0) y", api.ErrZero, 8}, {"item 1 y", api.ErrType, 0}, {"item [ ] y", api.ErrName, 9}, {"map y (1 / 0)", api.ErrZero, 9}, {"map y 1", api.ErrType, 0}, {"filter y (1 / 0)", api.ErrZero, 12}, {"fold y y (1 / 0)", api.ErrZero, 12}, {"fold y (1 / 0) [ ]", api.ErrZero, 10}, {"elem y (1 / 0)", api.ErrZero, 10}, {"elem y [ (1 / 0) ]", api.ErrName, 5},
		// What is told behind all nodes has no place.
		{"   map 1 [ 2 ]", api.ErrType, 0}, {"   map length [ 2 ]", api.ErrType, 0}, {"  map (x: y) [ 2 ]", api.ErrName, 10}, {"  map toInt [ y ]", api.ErrName, 14},
	}...)
}

func TestE3Sets(t *testing.T) {
	checkTold(t, []told{
		{"names { b = y; a = y; }", `[ "a" "b" ]`}, {"names { }", "[ ]"}, {"values { b = 1; a = 2; }", "[ 2 1 ]"}, {"values { }", "[ ]"}, {"length (values { b = y; a = y; })", "2"},
		{`has "a" { a = y; }`, "true"}, {`has "a" { }`, "false"}, {`has "" { "" = 1; }`, "true"}, {`get "a" { a = 1; b = y; }`, "1"},
	}...)
	checkWrong(t, []wrong{
		{"names [ ]", api.ErrType, 0}, {"values 1", api.ErrType, 0}, {"has 1 { }", api.ErrType, 0}, {`has "a" [ ]`, api.ErrType, 0}, {"get null { }", api.ErrType, 0}, {`get "a" 1`, api.ErrType, 0}, {`get "a" { b = 1; }`, api.ErrAttr, 0}, {`get "a" { a = y; }`, api.ErrName, 14},
		{"has (1 / 0) y", api.ErrZero, 7}, {"has 1 y", api.ErrType, 0}, {`has "a" y`, api.ErrName, 8}, {"get (1 / 0) y", api.ErrZero, 7}, {"get 1 y", api.ErrType, 0}, {`get "a" y`, api.ErrName, 8},
	}...)
}

func TestE3Marks(t *testing.T) {
	checkTold(t, []told{
		{"mkIf 1 2", `{ "_is"="if"; "value"=2; "when"=1; }`}, {"mkOverride 1 2", `{ "_is"="override"; "rank"=1; "value"=2; }`}, {"mkOrder 1 2", `{ "_is"="order"; "rank"=1; "value"=2; }`},
		{"mkForce 2", `{ "_is"="override"; "rank"=50; "value"=2; }`}, {"mkDefault 2", `{ "_is"="override"; "rank"=1000; "value"=2; }`}, {"mkMerge 2", `{ "_is"="merge"; "values"=2; }`},
		{`mkOption { type = "int"; a = 1; }`, `{ "_is"="option"; "a"=1; "type"="int"; }`}, {"mkOption { }", `{ "_is"="option"; }`}, {"mkOption { _is = y; Z = 1; }", `{ "Z"=1; "_is"="option"; }`},
		{"(mkIf y z)._is", `"if"`}, {"(mkOverride y z)._is", `"override"`}, {"(mkOrder y z)._is", `"order"`}, {"(mkForce y).rank", "50"}, {"(mkDefault y).rank", "1000"}, {"(mkMerge y)._is", `"merge"`}, {"(mkOption { a = y; })._is", `"option"`},
	}...)
	checkWrong(t, []wrong{{"mkOption 1", api.ErrType, 0}, {"mkOption [ ]", api.ErrType, 0}, {"mkOption y", api.ErrName, 9}}...)
}

func TestE3Texts(t *testing.T) {
	checkTold(t, []told{
		{`join ", " [ "a" "b" ]`, `"a, b"`}, {`join "x" [ ]`, `""`}, {`join "x" [ "a" ]`, `"a"`}, {`join "" [ "a" "" "b" ]`, `"ab"`},
		{`toString "a"`, `"a"`}, {"toString 1.50", `"1.5"`}, {"toString (-7)", `"-7"`}, {"toString null", `"null"`}, {"toString true", `"true"`}, {"toString (-inf)", `"-inf"`},
		{"map typeOf [ null true 1 1.0 \"\" [ ] { } (x: x) length ]", `[ "null" "bool" "int" "float" "string" "list" "set" "function" "function" ]`}, {"typeOf [ y ]", `"list"`},
		{"seq 1 2", "2"}, {"seq [ y ] 2", "2"},
	}...)
	checkWrong(t, []wrong{
		{"join 1 [ ]", api.ErrType, 0}, {`join "" { }`, api.ErrType, 0}, {`join "" [ "a" 1 ]`, api.ErrType, 0}, {`join "" [ 1 y ]`, api.ErrType, 0}, {`join "" [ "a" y 1 ]`, api.ErrName, 14}, {"join (1 / 0) y", api.ErrZero, 8}, {"join 1 y", api.ErrType, 0}, {`join "" y`, api.ErrName, 8},
		{"toString [ ]", api.ErrType, 0}, {"toString { }", api.ErrType, 0}, {"toString length", api.ErrType, 0}, {"toString y", api.ErrName, 9}, {"typeOf y", api.ErrName, 7},
		{`throw "x"`, api.ErrThrow, 0}, {`throw ""`, api.ErrThrow, 0}, {"throw 1", api.ErrType, 0}, {"throw y", api.ErrName, 6}, {"1 + throw [ ]", api.ErrType, 4}, {`[ 1 (throw "x") ]`, api.ErrThrow, 5},
		{"seq y (1 / 0)", api.ErrName, 4}, {"seq 1 y", api.ErrName, 6},
	}...)
}

func TestE3ToNumbers(t *testing.T) {
	checkTold(t, []told{
		{"toInt 5", "5"}, {"toInt 3.9", "3"}, {"toInt (-3.9)", "-3"}, {"toInt (-0.5)", "0"}, {"toInt 9223372036854774784.0", "9223372036854774784"}, {"toInt (-9223372036854775808.0)", "-9223372036854775808"},
		{`toInt "-12"`, "-12"}, {`toInt "0"`, "0"}, {`toInt "-0"`, "0"}, {`toInt "007"`, "7"}, {`toInt "9223372036854775807"`, "9223372036854775807"}, {`toInt "-9223372036854775808"`, "-9223372036854775808"}, {`toInt "` + strings.Repeat("0", 1023) + `5"`, "5"}, {`toInt "-` + strings.Repeat("0", 1022) + `5"`, "-5"},
		{"toFloat 1", "1.0"}, {"toFloat 1.5", "1.5"}, {"toFloat (-0.0)", "-0.0"}, {"toFloat nan", "nan"}, {"toFloat 9007199254740993", "9007199254740992.0"}, {"toFloat 9007199254740995", "9007199254740996.0"},
	}...)
	var rows []wrong
	for _, s := range []string{"", "-", "--1", "+1", " 1", "1 ", "1.0", "0x1", "1_0", "a", "1a", "-a", "1-", "٣", "1e3", "nan"} {
		rows = append(rows, wrong{`toInt "` + s + `"`, api.ErrNumber, 0})
	}
	for _, s := range []string{"nan", "inf", "(-inf)", "9223372036854775808.0", "(-9223372036854777856.0)", "1.0e300", `"9223372036854775808"`, `"-9223372036854775809"`, `"` + strings.Repeat("9", 1024) + `"`} {
		rows = append(rows, wrong{"toInt " + s, api.ErrOver, 0})
	}
	for _, s := range []string{"null", "true", "[ ]", "{ }", "length", "(x: x)"} {
		rows = append(rows, wrong{"toInt " + s, api.ErrType, 0}, wrong{"toFloat " + s, api.ErrType, 0})
	}
	checkWrong(t, append(rows, wrong{`toFloat "1"`, api.ErrType, 0}, wrong{"toInt y", api.ErrName, 6}, wrong{"toFloat y", api.ErrName, 8})...)
}

func TestE3BuiltIns(t *testing.T) {
	checkTold(t, told{"[ true false null nan inf ]", "[ true false null nan inf ]"})
	for _, name := range strings.Fields("length head tail item map filter fold elem names values has get join toString toInt toFloat typeOf throw seq mkIf mkOverride mkOrder mkForce mkDefault mkMerge mkOption") {
		checkTold(t, told{name, "function"})
	}
	for _, s := range strings.Fields("item map filter elem has get join seq mkIf mkOverride mkOrder fold") {
		checkTold(t, told{s + " y", "function"})
	}
	checkTold(t, told{"fold y z", "function"})
	for _, s := range strings.Fields("toList floor abs import builtins True NULL mkAfter _ x") {
		checkWrong(t, wrong{s, api.ErrName, 0})
	}
}

func TestE3Arguments(t *testing.T) {
	right := parsed(t, "  1 / 0")
	// A name may have more bytes than an attribute's may have.
	long := parsed(t, "1 .a"+strings.Repeat("0", api.MaxString))
	noExpression := [][]api.Node{nil, {}, right[:2], long, {{Kind: 99}}, {{Kind: api.NInt, Int: -1}}, {{Kind: api.NNeg, Kids: []int{0}}}, {{Kind: api.NName, Text: "let"}}, {{Kind: api.NList, Kids: []int{5, -1}}}, {{Kind: api.NInherit, Text: "a"}}}
	for _, f := range noExpression {
		v, n, err := eval.Eval(f, 10)
		if faultOf(err) != (api.Fault{At: 0, Err: api.ErrArg}) || n != 0 || !value.Same(v, api.Value{}) {
			t.Errorf("%+v: %s, %d, %+v", f, value.Show(v), n, faultOf(err))
		}
	}
	for _, fuel := range []int{-1, math.MinInt, api.MaxFuel + 1, math.MaxInt} {
		v, n, err := eval.Eval(right, fuel)
		if faultOf(err) != (api.Fault{At: 0, Err: api.ErrArg}) || n != 0 || !value.Same(v, api.Value{}) {
			t.Errorf("fuel %d: %s, %d, %+v", fuel, value.Show(v), n, faultOf(err))
		}
	}
}
