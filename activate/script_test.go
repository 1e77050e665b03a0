package activate_test

import (
	"slices"
	"strings"
	"testing"

	"bootjack/activate"
	"bootjack/api"
)

// mustWrite holds a script, and that the acts come back from it (V3, V5).
func mustWrite(t *testing.T, want string, l ...api.Act) {
	t.Helper()
	if text := activate.Text(l); text != want {
		t.Errorf("Text of %.300s: %.500q; must be %.500q", showActs(l), text, want)
	}
	if again, e := activate.Parse(want); e != api.OK || showActs(again) != showActs(l) {
		t.Errorf("Parse of %.300q: %d, %.500s; must be %.500s", want, e, showActs(again), showActs(l))
	}
}

func mustNotWrite(t *testing.T, what string, l ...api.Act) {
	t.Helper()
	if text := activate.Text(l); text != "" {
		t.Errorf("%s: Text of %.300s: %.300q; must be nothing", what, showActs(l), text)
	}
}

func mustNotParse(t *testing.T, texts ...string) {
	t.Helper()
	for _, text := range texts {
		if l, e := activate.Parse(text); e != api.ErrStep || len(l) != 0 {
			t.Errorf("Parse of %.300q: %d, %.300s; must be %d, and nothing", text, e, showActs(l), api.ErrStep)
		}
	}
}

func TestV3Scripts(t *testing.T) {
	u := api.Unit{Name: "u", Start: " run it ", Requires: []string{"b", "a", "b"}, After: []string{"z", "u"}}
	mustWrite(t, "end\n")
	mustWrite(t, "stop v\ndrop a\nuser b\nstart w\nrun x\nend\n", stop("v"), drop("a"), user("b"), start(unit("w", "x")))
	mustWrite(t, "stop end\nend\n", stop("end"))
	mustWrite(t, "remove a/b/c/d\nremove +\nend\n", remove("a/b/c/d"), remove("+"))
	mustWrite(t, "file f a 1\nxend\n", put(file("a", "x")))
	mustWrite(t, "file l a/b 4\n/a/bend\n", put(link("a/b", "/a/b")))
	mustWrite(t, "file f a 0\nend\n", put(file("a", "")))
	mustWrite(t, "file f a 0\nfile f b 2\n\n\nfile f a 4\nend\nuser u\nend\n", put(file("a", "")), put(file("b", "\n\n")), put(file("a", "end\n")), user("u"))
	mustWrite(t, "file f a 3\n\x00\xff\x80stop a\nend\n", put(file("a", "\x00\xff\x80")), stop("a"))
	mustWrite(t, "file f a 2048\n"+strings.Repeat("x", 2048)+"end\n", put(file("a", strings.Repeat("x", 2048))))
	mustWrite(t, lines("start u", "run  run it ", "requires b", "requires a", "requires b", "after z", "after u", "start u", "run end", "user u", "end"), start(u), start(unit("u", "end")), user("u"))
	mustWrite(t, lines("user a", "user a", "drop a", "stop a", "remove a", "end"), user("a"), user("a"), drop("a"), stop("a"), remove("a"))
}

// A script has at most MaxSteps acts, whatever they are.
func TestV3Most(t *testing.T) {
	for _, a := range []api.Act{stop("a"), remove("a"), drop("a"), user("a"), put(file("a", "x")), start(unit("a", "x", "b"))} {
		one := strings.TrimSuffix(activate.Text(acts(a)), "end\n")
		mustWrite(t, strings.Repeat(one, 128)+"end\n", slices.Repeat(acts(a), 128)...)
		mustNotWrite(t, "one too many", slices.Repeat(acts(a), 129)...)
		mustNotParse(t, strings.Repeat(one, 129)+"end\n", strings.Repeat(one, 128), strings.Repeat(one, 1000)+"end\n")
	}
}

// Each act with what its kind does not have.
func TestV3WhatIsNotNamed(t *testing.T) {
	for _, a := range []api.Act{stop("a"), remove("a"), drop("a"), user("a"), start(unit("a", "x"))} {
		for _, f := range []api.Entry{{Path: "a"}, {Kind: api.KindFile}, {Kind: -1}, {Data: []byte("x")}, file("a", "")} {
			b := a
			b.File = f
			mustNotWrite(t, "a file", b)
			mustNotWrite(t, "a file", a, b, a)
		}
	}
	for _, a := range []api.Act{stop("a"), remove("a"), drop("a"), user("a"), put(file("a", "x"))} {
		for _, u := range []api.Unit{{Name: "a"}, {Start: "x"}, {Requires: []string{""}}, {After: []string{"a"}}, unit("a", "x")} {
			b := a
			b.Unit = u
			mustNotWrite(t, "a unit", b)
			mustNotWrite(t, "a unit", a, b, a)
		}
	}
	// A list without elements is none.
	none := func(a api.Act) api.Act {
		if a.Kind != api.StepFile {
			a.File.Data = make([]byte, 0, 4)
		}
		if a.Kind != api.StepStart {
			a.Unit.Requires, a.Unit.After = make([]string, 0, 4), []string{}
		}
		return a
	}
	mustWrite(t, "stop a\nremove a\ndrop a\nuser a\nfile f a 1\nxstart a\nrun x\nend\n",
		none(stop("a")), none(remove("a")), none(drop("a")), none(user("a")), none(put(file("a", "x"))), none(start(unit("a", "x"))))
}

var wrongNames = []string{"", ".", "..", "a b", " a", "a ", "a\n", "a\x00", "\xff", "é", strings.Repeat("n", 37)}

func TestV3ActsThatMayNotBe(t *testing.T) {
	for _, kind := range []int{0, -1, 7, 100, 1 << 40} {
		mustNotWrite(t, "a kind", api.Act{Kind: kind, Name: "a"})
		mustNotWrite(t, "a kind", user("a"), api.Act{Kind: kind})
	}
	for _, name := range append(wrongNames, "a/b", "/a") {
		mustNotWrite(t, "a name", stop(name))
		mustNotWrite(t, "a name", drop(name))
		mustNotWrite(t, "a name", user(name))
		mustNotWrite(t, "a name", user("a"), user(name), user("a"))
		mustNotWrite(t, "a unit's name", start(unit(name, "x")))
		mustNotWrite(t, "what it requires", start(unit("a", "x", "b", name)))
		mustNotWrite(t, "what it stands behind", start(api.Unit{Name: "a", Start: "x", After: []string{name, "b"}}))
		mustNotParse(t, "stop "+name+"\nend\n", "drop "+name+"\nend\n", "user "+name+"\nend\n")
		mustNotParse(t, "start "+name+"\nrun x\nend\n", "start a\nrun x\nrequires "+name+"\nend\n", "start a\nrun x\nafter "+name+"\nend\n")
	}
	for _, path := range append(wrongNames, "/", "/a", "a/", "a//b", "a/.", "../a", "a/b/c/d/e", strings.Repeat("nnnnnnnnnnnnnnnnnnnnnnnnnnnnnn/", 3)+strings.Repeat("n", 28)) {
		mustNotWrite(t, "a path", remove(path))
		mustNotWrite(t, "a path", put(file(path, "")))
		mustNotParse(t, "remove "+path+"\nend\n", "file f "+path+" 0\nend\n")
	}
	long := strings.Repeat("nnnnnnnnnnnnnnnnnnnnnnnnnnnnnn/", 3) + strings.Repeat("n", 27)
	mustWrite(t, "remove "+long+"\nfile f "+long+" 0\nend\n", remove(long), put(file(long, "")))
	name := strings.Repeat("n", 36)
	mustWrite(t, lines("stop "+name, "drop "+name, "user "+name, "start "+name, "run x", "end"), stop(name), drop(name), user(name), start(unit(name, "x")))
	mustNotWrite(t, "another name than the file's path", api.Act{Kind: api.StepFile, Name: "b", File: file("a", "")})
	mustNotWrite(t, "no name but a file's path", api.Act{Kind: api.StepFile, File: file("a", "")})
	mustNotWrite(t, "a name and no file", api.Act{Kind: api.StepFile, Name: "a"})
	mustNotWrite(t, "another name than the unit's", api.Act{Kind: api.StepStart, Name: "b", Unit: unit("a", "x")})
	mustNotWrite(t, "no name but a unit's", api.Act{Kind: api.StepStart, Unit: unit("a", "x")})
	mustNotWrite(t, "a name and no unit", api.Act{Kind: api.StepStart, Name: "a"})
	for _, f := range []api.Entry{
		{Path: "a"}, {Path: "a", Kind: api.KindDir}, {Path: "a", Kind: 4}, {Path: "a", Kind: -1},
		link("a", ""), link("a", "z"), link("a", "/z/"), file("a", strings.Repeat("x", 2049)),
	} {
		mustNotWrite(t, "a file", put(f))
	}
}

// Each byte, in a Start alone, first, in the midst and last.
func TestV3StartOfEachByte(t *testing.T) {
	for c := range 256 {
		s := string([]byte{byte(c)})
		for _, text := range []string{s, s + "x", "x" + s + "x", "x" + s} {
			if 32 <= c && c <= 126 {
				mustWrite(t, "start a\nrun "+text+"\nend\n", start(unit("a", text)))
			} else {
				mustNotWrite(t, "a start", start(unit("a", text)))
				mustNotParse(t, "start a\nrun "+text+"\nend\n")
			}
		}
	}
	long := strings.Repeat("x", 120)
	mustWrite(t, "start a\nrun "+long+"\nend\n", start(unit("a", long)))
	mustNotWrite(t, "no start", start(unit("a", "")))
	mustNotWrite(t, "a start that is too long", start(unit("a", long+"x")))
	mustNotParse(t, "start a\nrun "+long+"x\nend\n")
}

func TestV3ParseOfOtherTexts(t *testing.T) {
	mustNotParse(t,
		"", "\n", "end", "end\n\n", "end\nend\n", " end\n", "end \n", "End\n", "end\r\n", "user a\nend", "user a", "user a\n", "\nend\n", "user a\n\nend\n",
		"user\nend\n", "usera\nend\n", "User a\nend\n", "user  a\nend\n", "user a \nend\n", "user a\tb\nend\n", " user a\nend\n",
		"end\nuser a\n", "user a\nend\nuser a\nend\n", "unit a\nrun x\nend\n", "halt a\nend\n",
		"run x\nend\n", "requires a\nend\n", "after a\nend\n", "user a\nrequires b\nend\n",
		"start a\nend\n", "start a\nrun\nend\n", "start a\nrun \nend\n", "start a\nstart b\nrun x\nend\n", "start a\nuser b\nrun x\nend\n",
		"start a\nrun x\nrun x\nend\n", "start a\nrequires b\nrun x\nend\n", "start a\nrun x\nafter b\nrequires b\nend\n",
		"start a\nrun x\nrequires\nend\n", "start a\nrun x\nafter \nend\n", "start a\nrun x\nafter b c\nend\n", "start a\nrun x\nuser b\nafter b\nend\n",
		"start a", "start a\n", "start a\nrun x", "start a\nrun x\n", "start a\nrun x\nrequires b", "start a\nrun x\nafter b\n",
	)
}

func TestV3ParseOfFiles(t *testing.T) {
	mustNotParse(t,
		"file f a 1\nx\nend\n", "file f a 1\nend\n", "file f a 2\nxend\n", "file f a 0\nxend\n", "file f a 4\nend\n", "file f a 5\nend\n", "file f a 1\n", "file f a 1",
		"file f a 01\nxend\n", "file f a +1\nxend\n", "file f a -1\nxend\n", "file f a -0\nend\n", "file f a 00\nend\n", "file f a 0x1\nxend\n", "file f a 1_0\n0123456789end\n",
		"file f a 1.\nxend\n", "file f a  1\nxend\n", "file f a 1 \nxend\n", "file f a 1 1\nxend\n", "file f a one\nxend\n", "file f a \nend\n", "file f a\nend\n", "file f\nend\n", "file \nend\n", "file\nend\n",
		"file  f a 1\nxend\n", "file f  a 1\nxend\n", "file F a 1\nxend\n", "file d a 1\nxend\n", "file ff a 1\nxend\n", "file  a 1\nxend\n", "file a 1\nxend\n", "file f 1\nxend\n",
		"file l a 0\nend\n", "file l a 1\nxend\n", "file l a 3\n/a/end\n", "file f a 1\r\nxend\n", "file f a 1\txend\n",
		"file f a 2049\n"+strings.Repeat("x", 2049)+"end\n",
		"file f a 9223372036854775807\nxend\n", "file f a 9223372036854775808\nxend\n", "file f a 18446744073709551617\nxend\n", "file f a -9223372036854775808\nxend\n",
	)
}

// No script is another one's beginning (V5): what is ahead of a script's end,
// and what has more behind it, is none.
func TestV5NoScriptBeginsAnother(t *testing.T) {
	for _, text := range []string{
		"end\n",
		"file f a 4\nend\nend\n",
		"stop v\nremove a/b\ndrop a\nuser b\nfile f a 8\nend\nend\nfile l b 2\n/zstart w\nrun x\nrequires u\nafter v\nend\n",
	} {
		if _, e := activate.Parse(text); e != api.OK {
			t.Fatalf("Parse of %q: %d", text, e)
		}
		for k := range len(text) {
			mustNotParse(t, text[:k])
		}
		for c := range 256 {
			mustNotParse(t, text+string([]byte{byte(c)}))
		}
		mustNotParse(t, text+"end\n", text+text, text+"user a\nend\n")
	}
}
