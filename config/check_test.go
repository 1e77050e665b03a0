package config_test

import (
	"strings"
	"testing"

	"bootjack/api"
)

// undeclared is a trouble of a name in a module that is no option's.
func undeclared(module, path string) api.Trouble {
	return api.Trouble{Module: module, Option: path, Err: api.ErrOption}
}

func TestG1Check(t *testing.T) {
	o := preset("a.b.c", "int", "1") + preset("a.d", "attrs int", "{ }") + preset("e", "int", "2") + " "
	for config, path := range map[string]string{
		"{ x = 1; }":                            "x",
		"{ a.x = 1; }":                          "a.x",
		"{ a.b.x = 1; }":                        "a.b.x",
		"{ a.b.cc = 1; }":                       "a.b.cc",
		"{ a.bb = { }; }":                       "a.bb",
		"{ aa = { }; }":                         "aa",
		"{ A = { }; }":                          "A",
		"{ b.c = 1; }":                          "b",
		"{ user = [ ]; }":                       "user",
		"{ userss = [ ]; }":                     "userss",
		"{ x = 1; y = 2; }":                     "x",
		"{ z = 1; a.y = 2; }":                   "a.y",
		"{ z = 1; a.d.x = 2; }":                 "z",
		"{ a.b = { c = 1; d = 2; }; a.a = 1; }": "a.a",
		"{ x = y; }":                            "x",
		"{ x = 1 / 0; }":                        "x",
		"mkIf true { x = 1; }":                  "x",
		"{ x = mkIf false 1; }":                 "x",
		"{ a = mkIf true { x = 1; }; }":         "a.x",
		"{ a = mkForce (mkOrder 1 { b = { x = 1; }; }); }":         "a.b.x",
		"mkMerge [ { e = 2; } { y = 1; } { x = 1; } ]":             "y",
		"{ a = mkMerge [ { } { b = mkMerge [ { x = 1; } ]; } ]; }": "a.b.x",
		"mkMerge [ (mkIf false { z = 1; }) { y = 1; } ]":           "y",
	} {
		refused(t, undeclared("main", path), "main", "{ "+o+"config = "+config+"; }")
		refused(t, undeclared("b", path), "main", `{ imports = [ "b" ]; `+o+"config.e = 2; }", "b", "{ config = "+config+"; }")
	}
}

// A name that may not be is told with what stands ahead of it, the empty one
// too.
func TestG1CheckNames(t *testing.T) {
	o := preset("a.b", "int", "1") + preset("a.b-_0Z", "int", "1") + preset("c.a.b", "int", "1") + " "
	for name, path := range map[string]string{"": "", "a.b": "a.b", "files.a": "files.a", "a b": "a b", "a\\n": "a\n", "\xc3\xa4": "\xc3\xa4", "a.": "a.", ".a": ".a", ".": ".", "a/b": "a/b", "a'": "a'", "users ": "users ", "a+b": "a+b"} {
		refused(t, undeclared("main", path), "main", "{ "+o+`config."`+name+`" = { }; }`)
		refused(t, undeclared("main", "c."+path), "main", "{ "+o+`config.c."`+name+`" = { }; }`)
	}
	means(t, "a.b = 2; a.b-_0Z = 3; c.a.b = 4", "main", "{ "+o+`config = { "a" = { "b" = mkForce 2; "b-_0Z" = 3; }; c.a.b = 4; }; }`)
	long := strings.Repeat("x", api.MaxString)
	refused(t, undeclared("main", long), "main", `{ config."`+long+`" = 1; }`)
}

// What stands within an option's value is its type's to say, and what a
// condition hides is not looked at.
func TestG1CheckEnds(t *testing.T) {
	o := preset("a.b", "attrs attrs int", "{ }") + " "
	means(t, `a.b = { "x y"={ ""=1; }; }`, "main", "{ "+o+`config.a.b."x y"."" = 1; }`)
	means(t, `a.b = { "x"={ "_is"=1; }; }`, "main", "{ "+o+`config.a.b.x._is = 1; }`)
	means(t, "a.b = { }", "main", "{ "+o+"config = mkMerge [ (mkIf false { no = 1; }) { a = mkIf false { no = 1; }; } ]; }")
	refused(t, undeclared("main", "a.no"), "main", "{ "+o+"config.a = mkIf (1 < 2) { no = 1; }; }")
}

// Modules are checked in their order, behind all settings.
func TestG1CheckOrder(t *testing.T) {
	c := `{ config.no = 1; config.files.f = "x"; }`
	refused(t, undeclared("b", "x"), "main", `{ imports = [ "b" "c" ]; }`, "c", c, "b", "{ config.x = 1; }")
	refused(t, undeclared("c", "no"), "main", `{ imports = [ "c" "b" ]; }`, "c", c, "b", "{ config.x = 1; }")
	refused(t, undeclared("main", "z"), "main", `{ imports = [ "c" "b" ]; config.z = 1; }`, "c", c, "b", "{ config.x = 1; }")
	refused(t, of("n", api.ErrUnset), "main", `{ imports = [ "b" ]; config.z = 1; }`, "b", "{ "+option("n", "int")+" }")
	// Whoever declares an option, all may define it; who is not asked for declares nothing.
	means(t, "x = 1", "main", `{ imports = [ "b" "d" ]; }`, "b", "{ config.x = 1; }", "d", "{ "+option("x", "int")+" }")
	refused(t, undeclared("main", "x"), "main", `{ config.x = 1; }`, "b", "{ "+option("x", "int")+" }")
}
