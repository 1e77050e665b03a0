package config_test

import (
	"strconv"
	"strings"
	"testing"

	"bootjack/api"
)

// Paths rise as texts do; names within the config by themselves.
func TestG1Settings(t *testing.T) {
	declared := preset("a.b", "int", "1") + preset("a-b", "int", "2") + preset("a0", "int", "3") + preset("A", "int", "4") + preset("a_.x", "int", "5") + preset("zz", "int", "6") + preset("a.c.d", "int", "7")
	means(t, `A = 4; a-b = 2; a.b = 1; a.c.d = 7; a0 = 3; a_.x = 5; zz = 6`, "main", "{ "+declared+" }")
	a := evaluate(t, list("main", "{ "+declared+" }"), "main", 1000)
	var paths []string
	for _, line := range strings.Split(a.meaning, "\n") {
		paths = append(paths, strings.Fields(line)[0])
	}
	if got := strings.Join(paths, " "); got != "A a-b a.b a.c.d a0 a_.x asserts files services users zz" {
		t.Error(got)
	}
	names := preset("n", "string", `join " " (names config)`) + preset("m", "string", `join " " (names config.a)`) + preset("l", "string", `join " " (names config.a.c)`)
	means(t, `A = 4; a-b = 2; a.b = 1; a.c.d = 7; a0 = 3; a_.x = 5; l = "d"; m = "b c"; n = "A a a-b a0 a_ asserts files l m n services users zz"; zz = 6`, "main", "config: { "+declared+names+" }")
}

// At the end of each path stands the option's value, as it was merged.
func TestG1TheConfig(t *testing.T) {
	means(t, `a.b.c = 1; x = 2`, "main", "config: { "+option("a.b.c", "int")+preset("x", "int", "config.a.b.c + 1")+" config.a.b.c = 1; }")
	means(t, `x = 1.0; y = "float"`, "main", "c: { "+preset("x", "float", "1")+preset("y", "string", "typeOf c.x")+" }")
	means(t, `s = "after requires start"; services = { "a"={ "after"=[ ]; "requires"=[ ]; "start"=""; }; }; unit a "" [] []`, "main", "c: { "+preset("s", "string", `join " " (names c.services.a)`)+" config.services.a = { }; }")
	means(t, `n = 3; users = [ "b" "a" "b" ]; user a; user b`, "main", `c: { imports = [ "b" ]; `+option("n", "int")+` config.n = length c.users; config.users = [ "b" ]; }`, "b", `{ config.users = [ "a" "b" ]; }`)
	means(t, `f = true; g = false; h = "no"`, "main", "c: { "+preset("f", "bool", "c ? users && c ? f")+preset("g", "bool", "c ? x || c.users ? x")+preset("h", "string", `c.x or "no"`)+" }")
	means(t, `a = 1; b = 1; c = 1`, "main", "c: { "+option("a", "int")+option("b", "int")+option("c", "int")+" config = { a = 1; b = c.a; c = c.b; }; }")
	means(t, `a = 1; b = 1; c = 1`, "main", "c: { "+option("a", "int")+option("b", "int")+option("c", "int")+" config = { c = 1; b = c.c; a = c.b; }; }")
	means(t, `x = 3; y = 3`, "main", "c: { "+preset("x", "int", "3")+preset("y", "int", "with c; x")+" }")
	// All modules are handed the same one.
	means(t, `x = 1; y = 2; z = 3`, "main", `c: { imports = [ "b" ]; `+option("x", "int")+option("z", "int")+` config.x = 1; config.z = c.y + 1; }`, "b", `d: { `+option("y", "int")+` config.y = d.x + 1; }`)
	// What is not asked for within it is not needed.
	means(t, `a = [ 1 2 ]; b = 2`, "main", "c: { "+preset("a", "list int", "[ 1 c.b ]")+preset("b", "int", "1 + 1")+" }")
}

func TestG1Loops(t *testing.T) {
	ab := option("a", "int") + option("b", "int")
	zero := "config: { " + ab + "config.a = config.a; }"
	refused(t, at(strings.LastIndex(zero, "."), api.ErrLoop), "main", zero)
	one := "c: { " + ab + "config.a = c.b; config.b = c.a; }"
	refused(t, at(strings.LastIndex(one, "."), api.ErrLoop), "main", one)
	two := "c: { " + ab + "config.a = 1; config.b = c.a; config.asserts.x = length c.users == 0; config.users = if c.asserts.x then [ ] else [ ]; }"
	refused(t, at(strings.LastIndex(two, ".asserts"), api.ErrLoop), "main", two)
	// A set is as much as its option, and whether a part of it is there hangs on all of it.
	three := `c: { config.files.a = "x"; config.files.b = c.files.a; }`
	refused(t, at(strings.LastIndex(three, ".files"), api.ErrLoop), "main", three)
	four := "c: { " + ab + "config = mkMerge [ { a = 1; } (mkIf (c.a == 1) { b = 2; }) ]; }"
	refused(t, at(strings.LastIndex(four, ".a"), api.ErrLoop), "main", four)
	means(t, "a = 1; b = 2", "main", "c: { "+ab+"config = { a = 1; b = mkIf (c.a == 1) 2; }; }")
	// Where no node is under way, no place is told.
	refused(t, nowhere(api.ErrLoop), "main", "c: { config = c; }")
	refused(t, nowhere(api.ErrLoop), "main", "c: { config = mkMerge [ c ]; }")
}

func TestG1Definitions(t *testing.T) {
	n := option("n", "int")
	refused(t, of("n", api.ErrUnset), "main", "{ "+n+" }")
	refused(t, of("a.b", api.ErrUnset), "main", "{ "+option("a.b", "list int")+" config.a = { }; }")
	refused(t, of("n", api.ErrUnset), "main", "{ "+n+" config.n = mkIf false 1; }")
	refused(t, of("n", api.ErrUnset), "main", "{ "+n+" config = mkMerge [ ]; }")
	refused(t, of("n", api.ErrType), "main", "{ "+n+` config.n = "1"; }`)
	refused(t, of("n", api.ErrType), "main", "{ "+n+` config.n = { }; }`)
	refused(t, of("n", api.ErrType), "main", "{ "+n+` config.n = x: x; }`)
	refused(t, of("n", api.ErrType), "main", "{ "+preset("n", "int", "null")+" }")
	refused(t, of("n", api.ErrConflict), "main", `{ imports = [ "b" ]; `+n+" config.n = 1; }", "b", "{ config.n = 2; }")
	refused(t, of("x", api.ErrConflict), "main", `{ imports = [ "b" ]; `+option("x", "float")+" config.x = nan; }", "b", "{ config.x = nan; }")
	refused(t, of("l", api.ErrLong), "main", `{ imports = [ "b" ]; `+option("l", "lines")+` config.l = "`+strings.Repeat("x", 600)+`"; }`, "b", `{ config.l = "`+strings.Repeat("y", 424)+`"; }`)
	means(t, "n = 1", "main", `{ imports = [ "b" ]; `+n+" config.n = 1; }", "b", "{ config.n = 1; }")
	means(t, "x = nan", "main", `{ `+option("x", "float")+" config.x = nan; }")
	// The modules' order is that of the definitions.
	means(t, `l = "c\nb\nmain"`, "main", `{ imports = [ "b" "c" ]; `+option("l", "lines")+` config.l = mkOrder 1001 "main"; }`, "b", `{ config.l = "b"; }`, "c", `{ config.l = mkOrder 999 "c"; }`)
	means(t, `l = "main\nc\nb"`, "main", `{ imports = [ "c" "b" ]; `+option("l", "lines")+` config.l = "main"; }`, "b", `{ config.l = "b"; }`, "c", `{ config.l = "c"; }`)
	means(t, `users = [ "m" "b" ]; user b; user m`, "main", `{ imports = [ "b" ]; config.users = [ "m" ]; }`, "b", `{ config.users = [ "b" ]; }`)
	// The first option by its path is told; the default of one that is behind is not needed.
	refused(t, of("a", api.ErrUnset), "main", "{ "+option("b", "int")+option("a", "int")+option("a0", "int")+" }")
	refused(t, of("a-b", api.ErrUnset), "main", "{ "+option("a.b", "int")+option("a-b", "int")+" }")
	refused(t, of("b", api.ErrUnset), "main", "c: { "+preset("a", "int", "c.b")+option("b", "int")+" }")
	refused(t, of("a", api.ErrUnset), "main", "c: { "+option("a", "int")+preset("b", "int", "1 / 0")+" }")
}

// A default has priority 1500 and order 1000, and is told deeply whether it
// counts or not.
func TestG1Default(t *testing.T) {
	n, l := preset("n", "int", "1"), preset("l", "lines", `"d"`)
	means(t, "n = 1", "main", "{ "+n+" }")
	for rank, want := range map[int]string{50: "2", 100: "2", 1000: "2", 1499: "2", 1501: "1", 2000: "1", 1 << 40: "1"} {
		means(t, "n = "+want, "main", "{ "+n+" config.n = mkOverride "+strconv.Itoa(rank)+" 2; }")
	}
	refused(t, of("n", api.ErrConflict), "main", "{ "+n+" config.n = mkOverride 1500 2; }")
	means(t, "n = 2", "main", "{ "+n+" config.n = mkOverride (-1) 2; }")
	means(t, `l = "d\nx"`, "main", "{ "+l+` config.l = mkOverride 1500 "x"; }`)
	means(t, `l = "d\nx"`, "main", "{ "+l+` config.l = mkOverride 1500 (mkOrder 1000 "x"); }`)
	means(t, `l = "x\nd"`, "main", "{ "+l+` config.l = mkOverride 1500 (mkOrder 999 "x"); }`)
	means(t, `l = "d\nx"`, "main", "{ "+l+` config.l = mkOrder 1001 (mkOverride 1500 "x"); }`)
	means(t, `n = 2`, "main", "{ "+preset("n", "int", `"x"`)+` config.n = 2; }`)
	zero := "{ " + preset("n", "int", "1 / 0") + " config.n = mkForce 2; }"
	refused(t, at(strings.Index(zero, "/"), api.ErrZero), "main", zero)
	inner := "{ " + preset("n", "list int", "[ 1 y ]") + " config.n = mkForce [ ]; }"
	refused(t, at(strings.Index(inner, "y ]"), api.ErrName), "main", inner)
	// Marks say nothing in it.
	refused(t, of("n", api.ErrType), "main", "{ "+preset("n", "int", "mkForce 1")+" }")
	refused(t, of("n", api.ErrType), "main", "{ "+preset("n", "int", "mkIf true 1")+" }")
	means(t, `n = { "_is"=1; }`, "main", "{ "+preset("n", "attrs int", "{ _is = 1; }")+" }")
	// It goes ahead of what modules say.
	both := "{ " + preset("n", "int", "1 / 0") + " config.n = y; }"
	refused(t, at(strings.Index(both, "/"), api.ErrZero), "main", both)
}

// An option that modules declare and define may be any of a type's values.
func TestG1Types(t *testing.T) {
	for kind, c := range map[string]struct{ text, want string }{
		"bool":            {"true", "true"},
		"int 1 9":         {"9", "9"},
		"float":           {"2", "2.0"},
		"string":          {`"a\nb"`, `"a\nb"`},
		"enum a b":        {`"b"`, `"b"`},
		"list list int":   {"[ [ 1 ] [ ] ]", "[ [ 1 ] [ ] ]"},
		"list float":      {"[ 1 1.5 ]", "[ 1 1.5 ]"},
		"attrs attrs int": {`{ a.b = 1; "" = { }; }`, `{ ""={ }; "a"={ "b"=1; }; }`},
		"unit":            {`{ start = "s"; after = [ "x" "y" "x" ]; }`, `{ "after"=[ "x" "y" ]; "requires"=[ ]; "start"="s"; }`},
	} {
		means(t, "o = "+c.want, "main", "{ "+option("o", kind)+" config.o = "+c.text+"; }")
		means(t, "o = "+c.want, "main", "{ "+preset("o", kind, c.text)+" }")
		means(t, "o.p.q = "+c.want, "main", "let x = "+c.text+"; in { "+option("o.p.q", kind)+" config.o.p.q = x; }")
	}
	refused(t, of("o", api.ErrType), "main", "{ "+option("o", "int 1 9")+" config.o = 10; }")
	refused(t, of("o", api.ErrType), "main", "{ "+option("o", "list int")+" config.o = [ true ]; }")
}
