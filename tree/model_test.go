package tree_test

import (
	"fmt"
	"math/rand/v2"
	"regexp"
	"slices"
	"strconv"
	"strings"
	"testing"

	"bootjack/api"
	"bootjack/tree"
)

// plainBytes lays down any list, a tree or not, as the chapter's words say.
func plainBytes(l []api.Entry) string {
	out := "tree\n"
	for _, x := range l {
		sign := "f"
		switch x.Kind {
		case api.KindFile:
		case api.KindLink:
			sign = "l"
		default:
			sign = fmt.Sprint("kind", x.Kind)
		}
		out += fmt.Sprintf("%s %s %d\n%s\n", sign, x.Path, len(x.Data), x.Data)
	}
	return out + "end\n"
}

// show makes entries readable where a test fails.
func show(l ...api.Entry) string { return plainBytes(l) }

var (
	nameWords = regexp.MustCompile(`^[a-zA-Z0-9._+-]{1,36}\z`)
	headWords = regexp.MustCompile(`^([fl]) ([^ \n]*) (0|[1-9][0-9]{0,3})\n`)
	refWords  = regexp.MustCompile(`^/store/[0-9a-f]{16}-[a-zA-Z0-9._+-]{1,19}`)
)

func isName(s string) bool { return nameWords.MatchString(s) && s != "." && s != ".." }

func areNames(s string, most int) bool {
	names := strings.Split(s, "/")
	return len(names) <= most && !slices.ContainsFunc(names, func(n string) bool { return !isName(n) })
}

func isPath(s string) bool {
	return s == "/" || strings.HasPrefix(s, "/") && len(s) <= 200 && areNames(s[1:], 16)
}

// plainRight is the chapter's word of a tree, part by part.
func plainRight(l []api.Entry) bool {
	for _, x := range l {
		switch {
		case !areNames(x.Path, 4), len(x.Path) > 120, len(x.Data) > 2048:
			return false
		case x.Kind != api.KindFile && x.Kind != api.KindLink:
			return false
		case x.Kind == api.KindLink && !isPath(string(x.Data)):
			return false
		}
	}
	for i, x := range l {
		for j, y := range l {
			if i < j && x.Path >= y.Path || i != j && strings.HasPrefix(y.Path, x.Path+"/") {
				return false
			}
		}
	}
	return len(l) <= 24
}

// plainParse goes through bytes by an expression a step.
func plainParse(b string) ([]api.Entry, bool) {
	if !strings.HasPrefix(b, "tree\n") {
		return nil, false
	}
	b = b[5:]
	var l []api.Entry
	for b != "end\n" {
		m := headWords.FindStringSubmatch(b)
		if m == nil {
			return nil, false
		}
		b = b[len(m[0]):]
		n, _ := strconv.Atoi(m[3])
		if n >= len(b) || b[n] != '\n' {
			return nil, false
		}
		kind := api.KindFile
		if m[1] == "l" {
			kind = api.KindLink
		}
		l = append(l, api.Entry{Path: m[2], Kind: kind, Data: []byte(b[:n])})
		b = b[n+1:]
	}
	return l, plainRight(l)
}

// mustParseAsPlain tells whether b was a tree's bytes.
func mustParseAsPlain(t *testing.T, b string) bool {
	t.Helper()
	want, ok := plainParse(b)
	if ok {
		mustParse(t, b, want...)
		return true
	}
	mustNotParse(t, b)
	return false
}

func pick(r *rand.Rand, of []string) string { return of[r.IntN(len(of))] }

// somePath gives paths that are often near to one another, and sometimes none.
func somePath(r *rand.Rand) string {
	if r.IntN(40) == 0 {
		return pick(r, []string{"", "/a", "a/", "a//b", ".", "a/..", "a b", strings.Repeat("n", 37), "a/b/c/d/e"})
	}
	p := pick(r, []string{"a", "b", "a-b", "a.b", "a0", "A"})
	for r.IntN(3) == 0 {
		p += "/" + pick(r, []string{"a", "b", "a-b", "+", strings.Repeat("n", 36)})
	}
	return p
}

func someData(r *rand.Rand) string {
	var d string
	for range r.IntN(6) {
		d += pick(r, []string{"x", "\n", "end\n", "tree\n", "f b 1\n", " ", "\x00", "\xff", "0123456789"})
	}
	return d
}

func someEntry(r *rand.Rand) api.Entry {
	switch r.IntN(60) {
	case 0:
		return api.Entry{Path: somePath(r), Kind: r.IntN(5), Data: []byte("/a")}
	case 1:
		return file(somePath(r), strings.Repeat("x", 2046+r.IntN(4)))
	case 2:
		return link(somePath(r), pick(r, []string{"", "a", "/a/", "/.", "/a b"}))
	}
	if r.IntN(2) == 0 {
		return link(somePath(r), pick(r, []string{"/", "/a", "/a/b", "/store/0123456789abcdef-x"}))
	}
	return file(somePath(r), someData(r))
}

// someList gives lists that are mostly sorted, so that some of them are trees.
func someList(r *rand.Rand) []api.Entry {
	var l []api.Entry
	for range r.IntN(6) {
		l = append(l, someEntry(r))
	}
	if r.IntN(8) > 0 {
		slices.SortFunc(l, func(a, b api.Entry) int { return strings.Compare(a.Path, b.Path) })
	}
	return l
}

func TestT1ListsAgainstPlainWords(t *testing.T) {
	r := rand.New(rand.NewPCG(8, 1))
	var count [2]int
	for range 20000 {
		l := someList(r)
		if plainRight(l) {
			mustBeTree(t, l)
			count[0]++
			continue
		}
		mustBeNone(t, l)
		count[1]++
	}
	if count[0] < 4000 || count[1] < 4000 {
		t.Error("trees and others:", count)
	}
}

// someTree gives trees alone.
func someTree(r *rand.Rand) []api.Entry {
	for {
		if l := someList(r); plainRight(l) {
			return l
		}
	}
}

func TestT3UnlikeTreesHaveUnlikeBytes(t *testing.T) {
	r := rand.New(rand.NewPCG(8, 4))
	seen := map[string][]api.Entry{}
	for range 20000 {
		l := someTree(r)
		b := string(tree.Bytes(l))
		if other, ok := seen[b]; ok && !same(other, l) {
			t.Fatalf("%q and %q have one row of bytes", show(other...), show(l...))
		}
		seen[b] = l
		if m, e := tree.Parse([]byte(b)); e != api.OK || !same(m, l) {
			t.Fatalf("Parse(%q): %q, %d", b, show(m...), e)
		}
	}
	if len(seen) < 2000 {
		t.Error("just", len(seen), "trees")
	}
}

// Data and paths that look like what stands beside them.
func TestT3NearTrees(t *testing.T) {
	near := [][]api.Entry{
		nil, {file("a", "")}, {file("a", "\n")}, {file("a", "x")}, {link("a", "/")}, {file("a", "/")}, {file("a", "x\nf b 1\nx")},
		{file("a", "x"), file("b", "x")}, {file("a", "x\nend\n")}, {file("a", "end\n")}, {file("a-1", "x")}, {file("a", "1\nx")},
		{file("a", "x\nl b 2\n/z")}, {file("a", "x"), link("b", "/z")}, {file("f", "x")}, {file("l", "x")}, {file("end", "")}, {file("tree", "")},
	}
	for i, a := range near {
		mustBeTree(t, a)
		for j, b := range near {
			if i != j && (string(tree.Bytes(a)) == string(tree.Bytes(b)) || tree.Digest(a) == tree.Digest(b)) {
				t.Errorf("%q is told as %q", show(a...), show(b...))
			}
		}
	}
}

// Each byte of a tree's bytes in place of any other, taken out, doubled, and all that is cut off.
func TestT1ParseOfBytesThatAreALittleElse(t *testing.T) {
	l := []api.Entry{file("a", "x\nend\n"), file("a-b", ""), link("b/c", "/z"), file("d", "0123456789")}
	b := string(tree.Bytes(l))
	trees := 0
	for k := range len(b) {
		mustNotParse(t, b[:k])
		mustParseAsPlain(t, b[:k]+b[k+1:])
		mustNotParse(t, b+b[k:])
		for c := range 256 {
			s := string([]byte{byte(c)})
			mustNotParse(t, b+s)
			if mustParseAsPlain(t, b[:k]+s+b[k+1:]) {
				trees++
			}
			mustParseAsPlain(t, b[:k]+s+b[k:])
		}
	}
	if trees < 256 {
		t.Error("just", trees, "trees")
	}
}

func TestT1ParseByChance(t *testing.T) {
	parts := []string{
		"tree\n", "end\n", "f ", "l ", "a", "b", "/", "c ", " ", "\n", "0\n", "1\n", "2\n", "x\n", "/z\n", "f a 1\nx\n", "f b 0\n\n", "l c 2\n/z\n", "f a/b 2\nyy\n", "01\n", "end", "tree",
	}
	r := rand.New(rand.NewPCG(8, 5))
	var count [2]int
	for range 60000 {
		b := "tree\n"
		if r.IntN(10) == 0 {
			b = ""
		}
		for range r.IntN(5) {
			b += pick(r, parts)
		}
		if r.IntN(10) > 0 {
			b += "end\n"
		}
		if mustParseAsPlain(t, b) {
			count[0]++
			continue
		}
		count[1]++
	}
	if count[0] < 1000 || count[1] < 1000 {
		t.Error("trees and others:", count)
	}
}
