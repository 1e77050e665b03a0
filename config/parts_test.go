package config_test

import (
	"fmt"
	"strings"
	"testing"

	"bootjack/api"
	"bootjack/config"
)

// quoted writes names as a list of strings.
func quoted(names []string) string {
	s := "[ "
	for _, name := range names {
		s += `"` + name + `" `
	}
	return s + "]"
}

// each writes a set of names that all have one value.
func each(names []string, text string) string {
	s := "{ "
	for _, name := range names {
		s += `"` + name + `" = ` + text + "; "
	}
	return s + "}"
}

// numbered makes so many names that rise.
func numbered(n int) (l []string) {
	for i := range n {
		l = append(l, fmt.Sprintf("n%03d", i))
	}
	return l
}

func TestG1Asserts(t *testing.T) {
	means(t, `asserts = { "a"=true; "b"=true; }`, "main", "{ config.asserts = { a = true; b = 1 < 2; }; }")
	means(t, `asserts = { ""=true; "a b"=true; }`, "main", `{ config.asserts = { "" = true; "a b" = true; }; }`)
	means(t, `asserts = { "a"=true; }`, "main", `{ imports = [ "b" ]; config.asserts.a = true; }`, "b", "{ config.asserts = mkIf false { a = false; }; }")
	for asserts, name := range map[string]string{
		"{ a = false; }": "a", "{ b = false; a = true; }": "b", "{ b = false; a = false; c = false; }": "a", `{ "" = false; a = false; }`: "", `{ "a.b c" = false; }`: "a.b c", `{ b = true; c = 2 < 1; }`: "c",
	} {
		refused(t, of("asserts."+name, api.ErrAssert), "main", "{ config.asserts = "+asserts+"; }")
	}
	refused(t, of("asserts", api.ErrConflict), "main", `{ imports = [ "b" ]; config.asserts.a = true; }`, "b", "{ config.asserts.a = false; }")
	refused(t, of("asserts", api.ErrType), "main", `{ config.asserts.a = "no"; }`)
	refused(t, of("asserts.n", api.ErrAssert), "main", "c: { "+preset("n", "int", "1")+" config.asserts.n = c.n > 1; config.asserts.m = c.n == 1; }")
	means(t, `asserts = { "m"=true; "n"=true; }; n = 2`, "main", "c: { "+preset("n", "int", "1")+" config.n = 2; config.asserts.n = c.n > 1; config.asserts.m = c.n == 2; }")
	// There may be as many as a set has names.
	a := evaluate(t, list("main", "{ config.asserts = "+each(numbered(200), "true")+"; }"), "main", api.MaxFuel)
	if a.trouble.Err != api.OK {
		t.Errorf("%+v", a.trouble)
	}
}

func TestG1Files(t *testing.T) {
	means(t, `files = { "a"="1"; "b"=""; "c/d"="x\ny"; }; file a "1"; file b ""; file c/d "x\ny"`, "main", `{ config.files = { "c/d" = "x\ny"; b = ""; a = "1"; }; }`)
	means(t, `files = { "f"="main\nb"; }; file f "main\nb"`, "main", `{ imports = [ "b" ]; config.files.f = "main"; }`, "b", `{ config.files.f = "b"; }`)
	part, rest := strings.Repeat("p", 30), strings.Repeat("q", 29)
	for _, name := range []string{"a", "0", "-", "_", "...", ".a", "a.", "a..b", "..a", "...", ".-", "etc/a/b/c.d", part, part + "/" + rest, "a/" + part, strings.Repeat("a/", 29) + "bc", "-/_", "a/.b", "a/...", "z9._-"} {
		means(t, `files = { "`+name+`"="x"; }; file `+name+` "x"`, "main", `{ config.files."`+name+`" = "x"; }`)
	}
	for _, name := range []string{"", "/", "/a", "a/", "a//b", ".", "..", "./a", "a/.", "a/..", "a/../b", "../a", part + "p", "a/" + part + "p", "p" + part + "/a", part + "/" + rest + "q", strings.Repeat("a/", 30) + "b", strings.Repeat("a/", 29) + "bcd", "A", "aB", "a b", "a+b", "a\xc3\xa4", "a:", "~", "a/B/c", "a\\tb", "{", "`", "a@"} {
		refused(t, of("files."+strings.ReplaceAll(name, "\\t", "\t"), api.ErrPath), "main", `{ config.files."`+name+`" = "x"; }`)
	}
}

// Every byte in a file's name, a user's and a unit's.
func TestG1Bytes(t *testing.T) {
	for c := range 256 {
		b := string([]byte{byte(c)})
		written := map[string]string{"\n": `\n`, "\t": `\t`, `"`: `\"`, `\`: `\\`}[b]
		if written == "" {
			written = b
		}
		inFiles := strings.Contains("abcdefghijklmnopqrstuvwxyz0123456789._-/", b)
		inUsers := strings.Contains("abcdefghijklmnopqrstuvwxyz0123456789-", b)
		name := "a" + written + "a"
		if _, _, err := config.Evaluate(list("main", `"`+name+`"`), "main", 10); troubleOf(t, err).Err != api.ErrModule {
			continue // no text has this byte
		}
		for _, k := range []struct {
			text  string
			right bool
			want  api.Trouble
		}{
			{`{ config.files."` + name + `" = "x"; }`, inFiles, of("files.a"+b+"a", api.ErrPath)},
			{`{ config.users = [ "` + name + `" ]; }`, inUsers, of("users", api.ErrPath)},
			{`{ config.services."` + name + `" = { }; }`, inUsers, of("services.a"+b+"a", api.ErrPath)},
			{`{ config.users = [ "` + name[1:] + `" ]; }`, inUsers && c >= 'a', of("users", api.ErrPath)},
			{`{ config.services."` + name[1:] + `" = { }; }`, inUsers && c >= 'a', of("services."+b+"a", api.ErrPath)},
		} {
			if k.right {
				k.want = api.Trouble{}
			}
			refused(t, k.want, "main", k.text)
		}
	}
}

// A file can't be a directory, too; which one is told goes by rising names.
func TestG1FilesWithin(t *testing.T) {
	for files, name := range map[string]string{
		`a "a/b"`: "a", `"a/b" "a/b/c"`: "a/b", `"a/b/c" a`: "a", `a "a-b" "a.b" "a/b"`: "a", `"x/y" b "b/c" x`: "b", `a "a/b" "a/b/c"`: "a",
		`a "a/B"`: "a", `a "a/"`: "a", `a "a//"`: "a", `b "b/c" Z`: "Z", `b "b/c" a@`: "a@", `b "b/c" c@`: "b", `"" "/a"`: "",
	} {
		text := ""
		for _, f := range strings.Fields(files) {
			text += `"` + strings.Trim(f, `"`) + `" = "x"; `
		}
		refused(t, of("files."+name, api.ErrPath), "main", "{ config.files = { "+text+"}; }")
	}
	means(t, `files = { "a"=""; "a-b"=""; "a.b/c"=""; "ab"=""; "ab.c"=""; "b/a"=""; "b/ab"=""; }; file a ""; file a-b ""; file a.b/c ""; file ab ""; file ab.c ""; file b/a ""; file b/ab ""`, "main", "{ config.files = "+each([]string{"a", "ab", "a-b", "a.b/c", "ab.c", "b/a", "b/ab"}, `""`)+"; }")
}

func TestG1ManyFiles(t *testing.T) {
	a := evaluate(t, list("main", "{ config.files = "+each(numbered(24), `"x"`)+"; }"), "main", api.MaxFuel)
	if a.trouble.Err != api.OK || strings.Count(a.meaning, "\nfile ") != 24 {
		t.Errorf("%+v", a)
	}
	refused(t, of("files", api.ErrMany), "main", "{ config.files = "+each(numbered(25), `"x"`)+"; }")
	refused(t, of("files", api.ErrMany), "main", "{ config.files = "+each(numbered(200), `"x"`)+"; }")
	// That there are too many is told ahead of a name that may not be.
	refused(t, of("files", api.ErrMany), "main", "{ config.files = "+each(append(numbered(24), "A"), `"x"`)+"; }")
	refused(t, of("files.A", api.ErrPath), "main", "{ config.files = "+each(append(numbered(23), "A"), `"x"`)+"; }")
}

func TestG1Users(t *testing.T) {
	means(t, `users = [ "b" "a" "b" "c" "a" ]; user a; user b; user c`, "main", `{ config.users = [ "b" "a" "b" "c" "a" ]; }`)
	longest := strings.Repeat("u", 16)
	for _, name := range []string{"a", "z", "a0", "a-", "a--9", longest} {
		means(t, `users = [ "`+name+`" ]; user `+name, "main", `{ config.users = [ "`+name+`" ]; }`)
	}
	for _, name := range []string{"", "0", "-", "0a", "-a", "A", "aA", "a_", "a.b", "a b", "a/b", longest + "u", strings.Repeat("u", 100), "\xc3\xa4"} {
		refused(t, of("users", api.ErrPath), "main", `{ config.users = [ "`+name+`" ]; }`)
		refused(t, of("users", api.ErrPath), "main", `{ config.users = [ "a" "`+name+`" "b" ]; }`)
	}
	refused(t, of("users", api.ErrType), "main", `{ config.users = [ 1 ]; }`)
	refused(t, of("users", api.ErrType), "main", `{ config.users = "a"; }`)
}

func TestG1ManyUsers(t *testing.T) {
	a := evaluate(t, list("main", "{ config.users = "+quoted(append(numbered(16), numbered(16)...))+"; }"), "main", api.MaxFuel)
	if a.trouble.Err != api.OK || strings.Count(a.meaning, "\nuser ") != 16 {
		t.Errorf("%+v", a)
	}
	refused(t, of("users", api.ErrMany), "main", "{ config.users = "+quoted(numbered(17))+"; }")
	refused(t, of("users", api.ErrMany), "main", "{ config.users = "+quoted(numbered(256))+"; }")
	// That there are too many is told behind a name that may not be.
	refused(t, of("users", api.ErrPath), "main", "{ config.users = "+quoted(append(numbered(17), "A"))+"; }")
	// Behind files, and ahead of services.
	refused(t, of("files.A", api.ErrPath), "main", `{ config.files.A = ""; config.users = `+quoted(numbered(17))+"; }")
	refused(t, of("users", api.ErrMany), "main", "{ config.services.A = { }; config.users = "+quoted(numbered(17))+"; }")
}

func TestG1Units(t *testing.T) {
	s := `services = { "a"={ "after"=[ ]; "requires"=[ "b" ]; "start"="x y"; }; "b"={ "after"=[ "no" "c" ]; "requires"=[ ]; "start"=""; }; "c"={ "after"=[ ]; "requires"=[ ]; "start"=""; }; }; `
	means(t, s+`unit c "" [] []; unit b "" [] ["no" "c"]; unit a "x y" ["b"] []`, "main", `{ config.services = { a = { requires = [ "b" ]; start = "x y"; }; b.after = [ "no" "c" ]; c = { }; }; }`)
	means(t, `services = { "a"={ "after"=[ "x" ]; "requires"=[ "b" "c" ]; "start"="s"; }; "b"={ "after"=[ ]; "requires"=[ ]; "start"=""; }; "c"={ "after"=[ ]; "requires"=[ ]; "start"=""; }; }; unit b "" [] []; unit c "" [] []; unit a "s" ["b" "c"] ["x"]`,
		"main", `{ imports = [ "m" ]; config.services.a = { requires = [ "b" ]; after = [ "x" ]; }; config.services.c = { }; }`, "m", `{ config.services = { a = { requires = [ "b" "c" ]; start = "s"; }; b = { }; }; }`)
	longest := strings.Repeat("u", 16)
	for _, name := range []string{"a", "z9", "a-", longest} {
		a := evaluate(t, list("main", "{ config.services."+name+" = { }; }"), "main", 1000)
		if !strings.HasSuffix(a.meaning, "unit "+name+` "" [] []`) {
			t.Errorf("%+v", a)
		}
	}
	for _, name := range []string{"", "0", "-a", "A", "a_", "a.b", "a b", longest + "u", "a/b"} {
		refused(t, of("services."+name, api.ErrPath), "main", `{ config.services."`+name+`" = { }; }`)
		refused(t, of("services."+name, api.ErrPath), "main", `{ config.services = { zz = { }; "`+name+`".requires = [ "no" ]; }; }`)
	}
	// The first by rising names is told.
	refused(t, of("services.B", api.ErrPath), "main", `{ config.services = { a_ = { }; C = { }; B = { }; a = { }; }; }`)
	refused(t, of("services", api.ErrType), "main", `{ config.services.a.more = 1; }`)
	refused(t, of("services", api.ErrConflict), "main", `{ imports = [ "b" ]; config.services.a.start = "x"; }`, "b", `{ config.services.a.start = "y"; }`)
}

func TestG1UnitsOrder(t *testing.T) {
	for services, want := range map[string]api.Trouble{
		`{ a.requires = [ "b" ]; }`:                                                of("services.a", api.ErrUnit),
		`{ c.requires = [ "no" ]; b.requires = [ "no" ]; a = { }; }`:               of("services.b", api.ErrUnit),
		`{ a.after = [ "b" ]; b.after = [ "a" ]; }`:                                of("services.a", api.ErrCycle),
		`{ a = { }; b.after = [ "b" ]; }`:                                          of("services.b", api.ErrCycle),
		`{ b.requires = [ "c" ]; c.after = [ "b" ]; a = { }; d.after = [ "a" ]; }`: of("services.b", api.ErrCycle),
		`{ a.after = [ "a" ]; b.requires = [ "no" ]; }`:                            of("services.b", api.ErrUnit),
	} {
		refused(t, want, "main", "{ config.services = "+services+"; }")
	}
	c, _, err := config.Evaluate(list("main", `{ config.services = { a.after = [ "z" ]; z = { }; m.requires = [ "a" ]; }; }`), "main", 1000)
	if err != nil || len(c.Units) != 3 || c.Units[0].Name != "z" || c.Units[1].Name != "a" || c.Units[2].Name != "m" {
		t.Errorf("%+v, %v", c, err)
	}
}

func TestG1ManyUnits(t *testing.T) {
	a := evaluate(t, list("main", "{ config.services = "+each(numbered(24), "{ }")+"; }"), "main", api.MaxFuel)
	if a.trouble.Err != api.OK || strings.Count(a.meaning, "\nunit ") != 24 {
		t.Errorf("%+v", a)
	}
	refused(t, of("services", api.ErrMany), "main", "{ config.services = "+each(numbered(25), "{ }")+"; }")
	// That there are too many is told ahead of a name that may not be, and of their order.
	refused(t, of("services", api.ErrMany), "main", "{ config.services = "+each(append(numbered(24), "A"), "{ }")+"; }")
	refused(t, of("services", api.ErrMany), "main", "{ config.services = "+each(numbered(25), `{ requires = [ "no" ]; }`)+"; }")
	refused(t, of("services.A", api.ErrPath), "main", "{ config.services = "+each(append(numbered(23), "A"), `{ requires = [ "no" ]; }`)+"; }")
}
