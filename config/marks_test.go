package config_test

import (
	"strings"
	"testing"

	"bootjack/api"
)

func TestG1If(t *testing.T) {
	n := option("n", "int") + " "
	means(t, "n = 1", "main", "{ "+n+"config.n = mkIf true 1; }")
	means(t, "n = 1", "main", "{ "+n+"config = mkIf true { n = 1; }; }")
	means(t, "n = 1", "main", "{ "+n+"config = mkIf true (mkIf true { n = mkIf true (mkIf true 1); }); }")
	means(t, "n = 1", "main", "{ "+n+"config = mkMerge [ { n = 1; } (mkIf false { n = 2; }) { n = mkIf false 3; } (mkIf false (1 / 0)) ]; }")
	means(t, "n = 1", "main", `{ `+n+`config.n = { _is = "if"; when = true; value = 1; more = 1 / 0; }; }`)
	means(t, "n = 1", "main", `{ `+n+`config.n = { _is = "i" + "f"; when = 1 < 2; value = 3 - 2; }; }`)
	means(t, "n = 1", "main", `{ `+preset("n", "int", "1")+`config.n = mkIf false 2; }`)
	means(t, `n = 1; o = true`, "main", "c: { "+n+preset("o", "bool", "true")+" config.n = mkMerge [ (mkIf c.o 1) (mkIf (!c.o) 2) ]; }")
	// A condition is needed, whatever it hides.
	text := "{ " + n + "config.n = mkIf (1 / 0) 1; }"
	refused(t, at(strings.Index(text, "/"), api.ErrZero), "main", text)
	for _, when := range []string{"1", "0", `"true"`, "null", "[ ]", "{ }", "(x: x)", "1.0", "mkIf"} {
		refused(t, nowhere(api.ErrType), "main", "{ "+n+"config.n = mkIf "+when+" 1; }")
		refused(t, nowhere(api.ErrType), "main", "{ "+n+"config = mkIf "+when+" { n = 1; }; }")
	}
}

func TestG1Override(t *testing.T) {
	n := `imports = [ "b" ]; ` + option("n", "int") + " "
	b := "{ config.n = 2; }"
	for main, want := range map[string]string{
		"mkOverride 99 1": "1", "mkOverride 101 1": "2", "mkForce 1": "1", "mkDefault 1": "2", "mkOverride (-5) 1": "1",
		"mkOverride (0 - 9223372036854775807 - 1) 1": "1", "mkOverride 9223372036854775807 1": "2",
		"mkForce (mkDefault 1)": "2", "mkDefault (mkForce 1)": "1", "mkOrder 1 (mkForce 1)": "1", "mkForce (mkOrder 5000 1)": "1",
		"mkIf true (mkForce 1)": "1", "mkForce (mkIf true 1)": "1", "mkForce (mkIf false 1)": "2", "mkForce (mkMerge [ 1 1 (mkDefault 7) ])": "1",
		"mkMerge [ (mkDefault 7) (mkForce 1) 9 ]": "1", `{ _is = "override"; rank = 99; value = 1; }`: "1",
	} {
		means(t, "n = "+want, "main", "{ "+n+"config.n = "+main+"; }", "b", b)
		means(t, "n = "+want, "main", "{ "+n+"config.n = 2; }", "b", "{ config.n = "+main+"; }")
	}
	refused(t, of("n", api.ErrConflict), "main", "{ "+n+"config.n = mkOverride 100 1; }", "b", b)
	refused(t, of("n", api.ErrConflict), "main", "{ "+n+"config.n = mkOrder 1 1; }", "b", b)
	// One over many names holds for each of them.
	two := option("x", "int") + option("y.z", "int")
	means(t, "x = 1; y.z = 1", "main", `{ imports = [ "b" ]; `+two+" config = mkForce { x = 1; y.z = 1; }; }", "b", "{ config.x = 2; config.y = mkDefault { z = 2; }; }")
	means(t, "x = 2; y.z = 1", "main", `{ imports = [ "b" ]; `+two+" config = mkForce { x = mkDefault 1; y = { z = 1; }; }; }", "b", "{ config.x = 2; config.y = { z = 2; }; }")
	for _, rank := range []string{`"1"`, "true", "1.0", "null", "[ 1 ]", "{ }", "(x: x)"} {
		for _, mark := range []string{"mkOverride", "mkOrder"} {
			refused(t, nowhere(api.ErrType), "main", "{ "+n+"config.n = "+mark+" "+rank+" 1; }", "b", b)
		}
	}
	text := "{ " + n + "config.n = mkOverride (1 / 0) 1; }"
	refused(t, at(strings.Index(text, "/"), api.ErrZero), "main", text, "b", b)
}

func TestG1Order(t *testing.T) {
	l := `imports = [ "b" ]; ` + option("l", "lines") + " "
	b := `{ config.l = "b"; }`
	for main, want := range map[string]string{
		`mkOrder 999 "m"`: `m\nb`, `mkOrder 1000 "m"`: `m\nb`, `mkOrder 1001 "m"`: `b\nm`, `mkOrder (-1) "m"`: `m\nb`,
		`mkOrder 2000 (mkOrder 1 "m")`: `m\nb`, `mkOrder 1 (mkOrder 2000 "m")`: `b\nm`,
		`mkMerge [ (mkOrder 3000 "x") "y" (mkOrder 2000 "z") (mkOrder 1 "w") ]`: `w\ny\nb\nz\nx`,
		`mkOrder 2000 (mkMerge [ "x" (mkOrder 1 "y") "z" ])`:                    `y\nb\nx\nz`,
		`mkForce (mkMerge [ (mkOrder 2 "x") (mkOrder 1 "y") ])`:                 `y\nx`,
		`{ _is = "order"; rank = 2000; value = "m"; }`:                          `b\nm`,
	} {
		means(t, `l = "`+want+`"`, "main", "{ "+l+"config.l = "+main+"; }", "b", b)
	}
	means(t, `l = "b\nm"`, "main", "{ "+l+`config = mkOrder 2000 { l = "m"; }; }`, "b", b)
}

func TestG1Merge(t *testing.T) {
	l := option("l", "lines") + " "
	for main, want := range map[string]string{
		`mkMerge [ "a" ]`: `a`, `mkMerge [ "a" "b" "a" ]`: `a\nb\na`, `mkMerge [ (mkMerge [ "a" "b" ]) "c" (mkMerge [ ]) (mkMerge [ "d" ]) ]`: `a\nb\nc\nd`,
		`mkMerge (map (x: x + x) [ "a" "b" ])`: `aa\nbb`, `mkMerge [ "a" (mkIf false (1 / 0)) (mkIf true "b") ]`: `a\nb`,
		`{ _is = "merge"; values = [ "a" "b" ]; value = 1 / 0; }`: `a\nb`, `mkIf true (mkMerge [ "a" "b" ])`: `a\nb`,
	} {
		means(t, `l = "`+want+`"`, "main", "{ "+l+"config.l = "+main+"; }")
	}
	means(t, `l = "a\nb\nc"`, "main", "{ "+l+`config = mkMerge [ { l = "a"; } { } (mkMerge [ { l = mkMerge [ "b" ]; } ]) { l = "c"; } ]; }`)
	refused(t, of("l", api.ErrUnset), "main", "{ "+l+"config.l = mkMerge [ ]; }")
	for _, values := range []string{"1", "{ }", `"a"`, "null", "(x: x)", "true"} {
		refused(t, nowhere(api.ErrType), "main", "{ "+l+"config.l = mkMerge "+values+"; }")
		refused(t, nowhere(api.ErrType), "main", "{ "+l+"config = mkMerge "+values+"; }")
	}
	// From the front, and up to the first error.
	text := "{ " + l + `config.l = mkMerge [ "a" (1 / 0) y ]; }`
	refused(t, at(strings.Index(text, "/"), api.ErrZero), "main", text)
}

func TestG1WrongMarks(t *testing.T) {
	n := option("n", "int") + " "
	for _, mark := range []string{
		`_is = "no"; value = 1;`, `_is = ""; value = 1;`, `_is = "If"; value = 1; when = true;`, `_is = "option"; type = "int";`, `_is = "if ";`,
		`_is = 1;`, `_is = null;`, `_is = true; value = 1;`, `_is = [ "if" ];`, `_is = { };`, `_is = x: x;`, `_is = mkIf;`,
		`_is = "if"; value = 1;`, `_is = "if"; when = true;`, `_is = "if"; when = false;`, `_is = "if";`, `_is = "if"; when = true; Value = 1;`,
		`_is = "override"; value = 1;`, `_is = "override"; rank = 1;`, `_is = "order"; value = 1;`, `_is = "order"; rank = 1;`, `_is = "override";`,
		`_is = "merge";`, `_is = "merge"; value = [ ];`, `_is = "merge"; values = 1;`, `_is = "override"; when = true; value = 1;`, `_is = "if"; rank = 1; value = 1;`,
		// What is missing is told ahead of what is forced.
		`_is = "if"; when = 1 / 0;`, `_is = "override"; rank = 1 / 0;`, `_is = "order"; rank = y;`, `_is = "if"; value = 1 / 0;`, `_is = "merge"; value = 1 / 0;`,
	} {
		refused(t, nowhere(api.ErrType), "main", "{ "+n+"config.n = { "+mark+" }; }")
		refused(t, nowhere(api.ErrType), "main", "{ "+n+"config = { "+mark+" n = 1; }; }")
		refused(t, nowhere(api.ErrType), "main", "{ "+n+"config.n = mkIf true (mkMerge [ { "+mark+" } ]); }")
	}
	refused(t, nowhere(api.ErrType), "main", "{ "+n+"config.n = mkOption { type = \"int\"; }; }")
	text := "{ " + n + "config.n = { _is = 1 / 0; }; }"
	refused(t, at(strings.Index(text, "/"), api.ErrZero), "main", text)
	// A mark that is wrong under one that is false is not seen.
	means(t, "n = 1", "main", "{ "+n+"config = mkMerge [ (mkIf false { _is = 1; }) { n = 1; } ]; }")
	// Beside a mark other names say nothing.
	means(t, "n = 1", "main", `{ `+n+`config = { _is = "if"; when = true; value = { n = 1; }; n = 1 / 0; a = y; }; }`)
}

// Within an option's value a mark is a set like others.
func TestG1MarksWithin(t *testing.T) {
	refused(t, of("files", api.ErrType), "main", `{ config.files.f = mkForce "x"; }`)
	refused(t, of("l", api.ErrType), "main", `{ `+option("l", "list int")+` config.l = [ (mkIf true 1) ]; }`)
	means(t, `a = { "f"={ "_is"=1; }; }`, "main", `{ `+option("a", "attrs attrs int")+` config.a.f._is = 1; }`)
	means(t, `files = { "f"="x"; }; file f "x"`, "main", `{ config.files = mkForce { f = "x"; }; }`)
	means(t, `g = { "_is"="x"; }`, "main", `{ `+preset("g", "attrs lines", `{ _is = "x"; }`)+` }`)
	refused(t, nowhere(api.ErrType), "main", `{ `+option("g", "attrs lines")+` config.g._is = "x"; }`)
}

// Where names are left, what has no mark must be a set; one without the name
// says nothing of the option.
func TestG1Names(t *testing.T) {
	ab := option("a.b", "int") + " "
	for _, text := range []string{"5", "null", `"a"`, "[ ]", "[ { a.b = 1; } ]", "x: x", "mkIf", "1.5", "true", "mkIf true 5", "mkForce [ ]", "mkMerge [ { } 5 ]"} {
		refused(t, nowhere(api.ErrType), "main", "{ "+ab+"config = "+text+"; }")
		refused(t, nowhere(api.ErrType), "main", "{ "+ab+"config.a = "+text+"; }")
	}
	refused(t, of("a.b", api.ErrUnset), "main", "{ "+ab+"config.a = { }; }")
	refused(t, of("a.b", api.ErrUnset), "main", "{ "+ab+"config = { }; }")
	means(t, "a.b = 1", "main", `{ imports = [ "b" ]; `+ab+"config = { }; }", "b", "{ config = mkMerge [ { a = { }; } { a.b = 1; } ]; }")
	means(t, "a.b = 1", "main", "let f = x: { a = x; }; in { "+ab+"config = f { b = 1; } // { }; }")
	// What is not asked for stays as it is till it is asked for.
	refused(t, of("a.b", api.ErrUnset), "main", "{ "+option("a.b", "int")+option("c", "int")+" config.c = 1 / 0; }")
	deep := "{ " + preset("o", "list int", "[ ]") + " config.o = " + strings.Repeat("[ ", 20) + strings.Repeat("] ", 20) + "; }"
	refused(t, of("o", api.ErrType), "main", deep)
	too := "let f = x: [ x ]; g = x: f (f (f (f (f (f (f (f (f (f (f x)))))))))); in { " + option("o", "list int") + " config.o = g (g (g 1)); }"
	refused(t, nowhere(api.ErrDeep), "main", too)
}

// Errors of finding are told of the node that asked for the option.
func TestG1PlacesWithin(t *testing.T) {
	x := option("x", "int") + " "
	for _, bad := range []string{"mkIf 1 1", "mkOverride true 1", "mkMerge 1", "{ _is = 1; }", `{ _is = "if"; }`, `{ _is = "no"; }`} {
		a := "c: { imports = [ \"b\" ]; " + option("a", "int") + x + "  config.a = c.x + 1; }"
		refused(t, at(strings.Index(a, ".x +"), api.ErrType), "main", a, "b", "{ config.x = "+bad+"; }")
		// Asked for by no node it has no place.
		refused(t, nowhere(api.ErrType), "main", "c: { imports = [ \"b\" ]; "+x+" }", "b", "{ config.x = "+bad+"; }")
	}
	a := "c: { imports = [ \"b\" ]; " + option("a", "int") + " config.a = 1 + c.y.z; }"
	refused(t, at(strings.LastIndex(a, ".z"), api.ErrType), "main", a, "b", "{ "+option("y.z", "int")+" config.y = mkIf true 5; }")
	// An error of a node is told of that node; one of the option of no module.
	m := "c: { imports = [ \"b\" ]; " + option("a", "int") + " config.a = c.x; }"
	refused(t, api.Trouble{Module: "b", At: 2 + len(x) + 13, Err: api.ErrZero}, "main", m, "b", "{ "+x+"config.x = 1 / 0; }")
	refused(t, of("x", api.ErrType), "main", m, "b", "{ "+x+"config.x = null; }")
	refused(t, of("x", api.ErrUnset), "main", m, "b", "{ "+x+"}")
	refused(t, of("x", api.ErrConflict), "main", m, "b", "{ "+x+"config.x = mkMerge [ 1 2 ]; }")
}

// A definition under a condition that is false is as if it were not there.
func TestG1AsIfNotThere(t *testing.T) {
	o := option("n", "int") + option("l", "lines") + option("a.b", "list int")
	main := func(hidden string) string {
		return "{ " + o + ` config = mkMerge [ { n = 1; l = "x"; a.b = [ 1 ]; } ` + hidden + " ]; }"
	}
	want := evaluate(t, list("main", main("")), "main", 1000)
	if want.trouble.Err != api.OK {
		t.Fatalf("%+v", want)
	}
	for _, hidden := range []string{
		"(mkIf false 5)", "(mkIf false y)", "(mkIf false { n = 2; no = 3; })", "{ n = mkIf false 2; }", "{ l = mkForce (mkIf false 5); }", "{ a = mkIf false 5; }",
		"{ a.b = mkMerge [ (mkIf false [ 2 ]) ]; }", "{ users = mkIf false 1; files = mkIf false null; }", `(mkIf false { asserts.x = false; users = [ "A" ]; })`, "(mkIf (1 > 2) (mkIf true { n = 7; }))",
	} {
		got := evaluate(t, list("main", main(hidden)), "main", 1000)
		if got.trouble != want.trouble || got.meaning != want.meaning {
			t.Errorf("%s: %+v; must be %+v", hidden, got, want)
		}
	}
}
