package tree_test

import (
	"bytes"
	"fmt"
	"hash/fnv"
	"math"
	"slices"
	"strings"
	"testing"

	"bootjack/api"
	"bootjack/tree"
)

func file(path, data string) api.Entry {
	return api.Entry{Path: path, Kind: api.KindFile, Data: []byte(data)}
}

func link(path, to string) api.Entry {
	return api.Entry{Path: path, Kind: api.KindLink, Data: []byte(to)}
}

func files(paths ...string) []api.Entry {
	var l []api.Entry
	for _, p := range paths {
		l = append(l, file(p, "x"))
	}
	return l
}

// manyFiles gives n entries whose paths rise.
func manyFiles(n int, data string) []api.Entry {
	var l []api.Entry
	for k := range n {
		l = append(l, file(fmt.Sprintf("f%02d", k), data))
	}
	return l
}

func same(a, b []api.Entry) bool {
	return slices.EqualFunc(a, b, func(x, y api.Entry) bool {
		return x.Path == y.Path && x.Kind == y.Kind && bytes.Equal(x.Data, y.Data)
	})
}

func clone(l []api.Entry) []api.Entry {
	out := slices.Clone(l)
	for k := range out {
		out[k].Data = bytes.Clone(out[k].Data)
	}
	return out
}

// mustBeTree holds all calls that tell what a tree is against one another.
func mustBeTree(t *testing.T, l []api.Entry) {
	t.Helper()
	if !tree.Right(l) {
		t.Fatalf("%q is no tree", show(l...))
	}
	b := tree.Bytes(l)
	if string(b) != plainBytes(l) {
		t.Fatalf("Bytes of %q: %q", show(l...), b)
	}
	if m, e := tree.Parse(b); e != api.OK || !same(m, l) {
		t.Fatalf("Parse(%q): %q, %d", b, show(m...), e)
	}
	if d := tree.Digest(l); d != plainDigest(b) {
		t.Fatalf("Digest of %q: %q", show(l...), d)
	}
}

func mustBeNone(t *testing.T, l []api.Entry) {
	t.Helper()
	if tree.Right(l) {
		t.Fatalf("%q is a tree", show(l...))
	}
	if b := tree.Bytes(l); len(b) != 0 {
		t.Fatalf("Bytes of %q: %q", show(l...), b)
	}
	if d := tree.Digest(l); d != "cbf29ce484222325" {
		t.Fatalf("Digest of %q: %q", show(l...), d)
	}
	mustNotParse(t, plainBytes(l))
}

func mustNotParse(t *testing.T, b string) {
	t.Helper()
	if l, e := tree.Parse([]byte(b)); e != api.ErrTree || len(l) != 0 {
		t.Fatalf("Parse(%q): %q, %d", b, show(l...), e)
	}
}

func mustParse(t *testing.T, b string, want ...api.Entry) {
	t.Helper()
	if l, e := tree.Parse([]byte(b)); e != api.OK || !same(l, want) {
		t.Fatalf("Parse(%q): %q, %d, not %q", b, show(l...), e, show(want...))
	}
}

// plainDigest is reckoned by another's sums than those of layer 2.
func plainDigest(b []byte) string {
	h := fnv.New64a()
	h.Write(b)
	return fmt.Sprintf("%016x", h.Sum64())
}

// The chapter's table of examples, row by row.
func TestExamples(t *testing.T) {
	l := []api.Entry{file("a", "x"), link("b/c", "/z")}
	if b := tree.Bytes(l); string(b) != "tree\nf a 1\nx\nl b/c 2\n/z\nend\n" {
		t.Errorf("Bytes: %q", b)
	}
	for _, l := range [][]api.Entry{files("a", "a/b"), files("b", "a"), files("a//b"), {link("a", "z")}} {
		if tree.Right(l) {
			t.Errorf("%q is a tree", show(l...))
		}
	}
	if !tree.Right(nil) {
		t.Error("nothing is no tree")
	}
	mustRefer(t, "x/store/0123456789abcdef-a b/store/0123456789abcdef-", "/store/0123456789abcdef-a")
}

func TestT1Nothing(t *testing.T) {
	mustBeTree(t, nil)
	mustBeTree(t, []api.Entry{})
	if b := tree.Bytes(nil); string(b) != "tree\nend\n" {
		t.Errorf("Bytes of nothing: %q", b)
	}
	mustParse(t, "tree\nend\n")
}

func TestT1PathsThatMayBe(t *testing.T) {
	n36 := strings.Repeat("n", 36)
	for _, p := range []string{
		"a", "Z", "0", "9", "_", "-", "+", "...", ".a", "a.", "..a", "-.-", "end", "f", "tree",
		"a/b", "a/b/c", "a/b/c/d", ".../...", "a/a/a/a", n36, n36 + "/" + n36,
		n36 + "/" + n36 + "/" + n36 + "/" + n36[:9],
		n36[:29] + "/" + n36[:30] + "/" + n36[:29] + "/" + n36[:29],
	} {
		mustBeTree(t, files(p))
	}
}

func TestT1PathsThatMayNotBe(t *testing.T) {
	n36 := strings.Repeat("n", 36)
	for _, p := range []string{
		"", "/", "//", "/a", "a/", "/a/", "a//b", ".", "..", "./a", "../a", "a/.", "a/..", "a/./b", "a/../b",
		"a/b/c/d/e", "a/b/c/d/", "/a/b/c/d", n36 + "n", "a/" + n36 + "n",
		n36 + "/" + n36 + "/" + n36 + "/" + n36[:10], // 121 bytes
		n36 + "/" + n36 + "/" + n36 + "/" + n36,
		"a b", " a", "a ", "a\n", "\na", "a\x00", "\x00", "é", "a\\b", "a:b", "a*", "~", "a/b c", "a\nf b",
		strings.Repeat("a", 120), strings.Repeat("a", 5000), strings.Repeat("a/", 60), strings.Repeat("/", 120),
	} {
		mustBeNone(t, files(p))
	}
}

func TestT1EachByteOfAPath(t *testing.T) {
	const may = "abcdefghijklmnopqrstuvwxyzABCDEFGHIJKLMNOPQRSTUVWXYZ0123456789._-+"
	for c := range 256 {
		s := string([]byte{byte(c)})
		check := mustBeNone
		if strings.Contains(may, s) {
			check = mustBeTree
		}
		check(t, files("x"+s))
		check(t, files(s+"x"))
		if s != "/" {
			check(t, files("x/x"+s+"x/x"))
		}
	}
}

func TestT1Kinds(t *testing.T) {
	for _, kind := range []int{math.MinInt, -3, -1, 0, api.KindDir, 4, 5, 256 + 1, 256 + 3, 1<<32 + 1, math.MaxInt} {
		l := []api.Entry{{Path: "a", Kind: kind, Data: []byte("/z")}}
		mustBeNone(t, l)
		mustBeNone(t, append(files("A"), l...))
		mustBeNone(t, append(l, file("b", "x")))
	}
	mustBeTree(t, []api.Entry{file("a", "/z")})
	mustBeTree(t, []api.Entry{link("a", "/z")})
	mustBeNone(t, []api.Entry{{}})
}

func TestT1NumberOfEntries(t *testing.T) {
	for n := range 25 {
		mustBeTree(t, manyFiles(n, "x"))
	}
	for _, n := range []int{25, 26, 48, 99} {
		mustBeNone(t, manyFiles(n, "x"))
	}
	mustBeTree(t, manyFiles(24, strings.Repeat("\n", api.MaxData)))
}

func TestT1LengthOfData(t *testing.T) {
	for _, n := range []int{0, 1, 9, 10, 11, 99, 100, 101, 999, 1000, 1001, 2047, 2048} {
		mustBeTree(t, []api.Entry{file("a", strings.Repeat("x", n))})
	}
	mustBeTree(t, []api.Entry{{Path: "a", Kind: api.KindFile}})
	for _, n := range []int{2049, 2050, 4096, 20480, 65536} {
		mustBeNone(t, []api.Entry{file("a", strings.Repeat("x", n))})
		mustBeNone(t, []api.Entry{file("A", "x"), file("a", strings.Repeat("x", n))})
	}
}

func TestT1DataOfFilesAreAnyBytes(t *testing.T) {
	var each []byte
	for c := range 256 {
		each = append(each, byte(c))
		mustBeTree(t, []api.Entry{file("a", string([]byte{byte(c)}))})
	}
	for _, d := range []string{
		string(each), "\n", "\n\n", "end\n", "\nend\n", "x\nend\n", "tree\nend\n", "f b 1\nx\n", "x\nf b 1\nx", "1\n", " ",
		string(tree.Bytes(files("a", "b"))), "/", "z", "../..",
	} {
		mustBeTree(t, []api.Entry{file("a", d)})
		mustBeTree(t, []api.Entry{file("a", d), file("b", d), link("c", "/c")})
	}
}

func TestT1WhereLinksLead(t *testing.T) {
	long := strings.Repeat("/abcdefghi", 16)
	for _, to := range []string{"/", "/a", "/a/b", "/...", long, long + strings.Repeat("x", 27), "/store/0123456789abcdef-x"} {
		mustBeTree(t, []api.Entry{link("a", to)})
	}
	wide := "/" + strings.Repeat(strings.Repeat("n", 36)+"/", 5) + strings.Repeat("n", 14)
	if len(wide) != api.MaxPath {
		t.Fatal("a path of", len(wide))
	}
	mustBeTree(t, []api.Entry{link("a", wide)})
	for _, to := range []string{
		"", "z", "a/b", "//", "/a/", "/a//b", "/.", "/..", "/../a", "/a b", "/a\n", " /a", "/\x00", wide + "n",
		long + "/a", "/" + strings.Repeat("n", 37), strings.Repeat("/a", 17), strings.Repeat("/a", 1024), strings.Repeat("n", 2048),
	} {
		mustBeNone(t, []api.Entry{link("a", to)})
		mustBeTree(t, []api.Entry{file("a", to)})
	}
}

func TestT1PathsRise(t *testing.T) {
	for _, l := range [][]string{
		{"a", "b"}, {"a", "aa"}, {"B", "a"}, {"9", "A", "_", "a"}, {"+", "-", "...", "0"}, {"a+", "a-", "a.", "a0", "aa"},
		{"a+b", "a/b"}, {"a.b", "a/b", "a0b"}, {"a/b", "a/c"}, {"a/b", "b/a"}, {"a/z", "a0/a"}, {"A/b", "a"},
	} {
		mustBeTree(t, files(l...))
		slices.Reverse(l)
		mustBeNone(t, files(l...))
	}
	for _, l := range [][]string{
		{"a", "a"}, {"a/b", "a/b"}, {"a", "b", "b"}, {"a", "a", "b"}, {"a", "c", "b"}, {"b", "a", "c"}, {"a", "b", "a"},
		{"a", "B"}, {"a0", "a/b"}, {"a/c", "a/b"},
	} {
		mustBeNone(t, files(l...))
	}
	mustBeNone(t, []api.Entry{file("a", "x"), link("a", "/x")})
	mustBeNone(t, []api.Entry{file("a", "1"), file("a", "2")})
}

func TestT1NoPathWithinAnother(t *testing.T) {
	for _, l := range [][]string{
		{"a", "a/b"}, {"a", "a/b/c/d"}, {"a/b", "a/b/c"}, {"a/b/c", "a/b/c/d"}, {"+", "+/+"},
		// Others stand between.
		{"a", "a-b", "a/b"}, {"a", "a+", "a-", "a.", "a.x", "a/b"}, {"a/b", "a/b-c", "a/b/c"}, {"0", "a", "a+", "a/b", "b"},
		{"a", "a-b/c", "a/b"},
	} {
		mustBeNone(t, files(l...))
		of := files(l...)
		of[0] = link(l[0], "/z")
		mustBeNone(t, of)
	}
	for _, l := range [][]string{
		{"a", "a-b"}, {"a", "ab"}, {"a", "a.b", "ab/c"}, {"a/b", "a/bc"}, {"a/b", "a/b-c"}, {"a/b/c", "a/b/d"}, {"a/a", "a/b/a"},
		{"a", "a-b/a", "b/a"}, {"a/b", "a/b.c/d"},
	} {
		mustBeTree(t, files(l...))
	}
}

func TestT1Digest(t *testing.T) {
	for _, row := range []struct {
		l    []api.Entry
		want string
	}{
		{nil, plainDigest([]byte("tree\nend\n"))},
		{files("a"), plainDigest([]byte("tree\nf a 1\nx\nend\n"))},
		{[]api.Entry{link("b/c", "/z")}, plainDigest([]byte("tree\nl b/c 2\n/z\nend\n"))},
	} {
		if d := tree.Digest(row.l); d != row.want || len(d) != 16 {
			t.Errorf("Digest of %q: %q", show(row.l...), d)
		}
	}
	if tree.Digest([]api.Entry{file("a", "/z")}) == tree.Digest([]api.Entry{link("a", "/z")}) {
		t.Error("a file is called as a link")
	}
}

func TestT1ParseOfNoTree(t *testing.T) {
	for _, b := range []string{
		"", "\n", "tree", "tree\n", "tree\nend", "tree\n\nend\n", "treeend\n", "Tree\nend\n", "tree\nEnd\n", " tree\nend\n", "tree \nend\n",
		"end\n", "tree\r\nend\r\n", "tree\nend\n\n", "tree\nend\nend\n", "tree\nend\ntree\nend\n", "tree\nend\nx", "tree\ntree\nend\n", "\ntree\nend\n",
		"tree\nend\nf a 1\nx\n", "tree\nend\nf a 1\nx\nend\n", "\xef\xbb\xbftree\nend\n",
		// Of an entry.
		"tree\nf a 1\nx\n", "tree\nf a 1\nxend\n", "tree\nf a 1\nend\n", "tree\nf a 1\nx\nend", "tree\nf a 1\nx\n\nend\n", "tree\n f a 1\nx\nend\n",
		"tree\nf  a 1\nx\nend\n", "tree\nf a  1\nx\nend\n", "tree\nf a 1 \nx\nend\n", "tree\nf a 1\n\nx\nend\n", "tree\nf\ta 1\nx\nend\n", "tree\nf a\t1\nx\nend\n",
		"tree\nf a 1\r\nx\nend\n", "tree\nfa 1\nx\nend\n", "tree\nf a1\nx\nend\n", "tree\nf a\nx\nend\n", "tree\nf 1\nx\nend\n", "tree\nf  1\nx\nend\n",
		"tree\na 1\nx\nend\n", "tree\nf a 1 1\nx\nend\n", "tree\nf\na 1\nx\nend\n", "tree\nf a\n1\nx\nend\n", "tree\nf a 1x\nend\n",
		// Of a sign.
		"tree\nd a 1\nx\nend\n", "tree\nF a 1\nx\nend\n", "tree\nL a 2\n/z\nend\n", "tree\nff a 1\nx\nend\n", "tree\nfile a 1\nx\nend\n", "tree\n1 a 1\nx\nend\n",
		"tree\n a 1\nx\nend\n", "tree\n\x01 a 1\nx\nend\n",
		// Of what a tree may not have.
		"tree\nf /a 1\nx\nend\n", "tree\nf a/ 1\nx\nend\n", "tree\nf . 1\nx\nend\n", "tree\nf a/b/c/d/e 1\nx\nend\n", "tree\nl a 1\nz\nend\n", "tree\nl a 0\n\nend\n",
		"tree\nf a 1\nx\nf a 1\nx\nend\n", "tree\nf b 1\nx\nf a 1\nx\nend\n", "tree\nf a 1\nx\nf a/b 1\nx\nend\n", "tree\nf a 1\nx\nf a-b 1\nx\nf a/b 1\nx\nend\n",
	} {
		mustNotParse(t, b)
	}
	if l, e := tree.Parse(nil); e != api.ErrTree || len(l) != 0 {
		t.Error("Parse of nothing:", l, e)
	}
}

func TestT1ParseOfCounts(t *testing.T) {
	mustParse(t, "tree\nf a 0\n\nend\n", file("a", ""))
	mustParse(t, "tree\nf a 1\n\n\nend\n", file("a", "\n"))
	mustParse(t, "tree\nf a 10\n0123456789\nend\n", file("a", "0123456789"))
	for _, count := range []string{
		"", "01", "001", "+1", "-1", "--1", "1.0", "1e0", "0x1", "1_", "0_1", "1a", "a", "１", "\x001", "2", "3", "99", "2048",
		"9223372036854775807", "9223372036854775808", "18446744073709551617", "4294967297", "-9223372036854775808", strings.Repeat("9", 400),
		strings.Repeat("0", 400) + "1", "1\x00", "0",
	} {
		mustNotParse(t, "tree\nf a "+count+"\nx\nend\n")
	}
	for _, count := range []string{"00", "-0", "+0", "0x0", "000", ""} {
		mustNotParse(t, "tree\nf a "+count+"\n\nend\n")
	}
	long := strings.Repeat("x", 2049)
	mustParse(t, "tree\nf a 2048\n"+long[1:]+"\nend\n", file("a", long[1:]))
	mustNotParse(t, "tree\nf a 02048\n"+long[1:]+"\nend\n")
	mustNotParse(t, "tree\nf a 2049\n"+long+"\nend\n")
	mustNotParse(t, "tree\nf a 2047\n"+long[1:]+"\nend\n")
}

func TestT1ParseOfManyEntries(t *testing.T) {
	mustParse(t, plainBytes(manyFiles(24, "x")), manyFiles(24, "x")...)
	for _, n := range []int{25, 26, 100} {
		mustNotParse(t, plainBytes(manyFiles(n, "x")))
	}
	mustNotParse(t, "tree\n"+strings.Repeat("f a 1\nx\n", 1<<16))
}

func TestT1ParseOfLongBytes(t *testing.T) {
	long := strings.Repeat("a", 1<<20)
	for _, b := range []string{
		long, "tree\n" + long, "tree\nf " + long, "tree\nf " + long + " 1\nx\nend\n", "tree\n" + long + " a 1\nx\nend\n", "tree\nf a " + long + "\nx\nend\n",
		"tree\nend\n" + long, strings.Repeat(" ", 1<<20), strings.Repeat("\n", 1<<20), "tree\n" + strings.Repeat(" ", 1<<20), strings.Repeat("tree\n", 1<<18),
	} {
		mustNotParse(t, b)
	}
}

func TestT2Find(t *testing.T) {
	l := []api.Entry{file("a", "1"), link("b/c", "/z"), file("b/d", "")}
	for _, x := range l {
		if got, ok := tree.Find(l, x.Path); !ok || !same([]api.Entry{got}, []api.Entry{x}) {
			t.Errorf("Find(%q): %q, %v", x.Path, show(got), ok)
		}
	}
	for _, p := range []string{"", "A", "b", "c", "b/", "b/c/", "/a", "a/", "aa", "b/c/d", "\x00", "1", "/z"} {
		if got, ok := tree.Find(l, p); ok || got.Path != "" || got.Kind != 0 || got.Data != nil {
			t.Errorf("Find(%q): %q, %v", p, show(got), ok)
		}
	}
	if got, ok := tree.Find(nil, ""); ok || got.Data != nil {
		t.Errorf("Find in nothing: %q, %v", show(got), ok)
	}
}

func TestT2FindInAnyList(t *testing.T) {
	l := []api.Entry{file("b", "1"), file("a", "2"), link("a", "3"), {Path: "b", Kind: 77}, {Path: "/no path\n", Kind: -1, Data: []byte("4")}}
	l = append(l, manyFiles(100, strings.Repeat("x", 5000))...)
	l = append(l, api.Entry{Kind: 5, Data: []byte("6")}, api.Entry{Kind: 7})
	for _, row := range []struct {
		path string
		want api.Entry
	}{
		{"a", l[1]}, {"b", l[0]}, {"/no path\n", l[4]}, {"f99", l[104]}, {"", l[105]},
	} {
		if got, ok := tree.Find(l, row.path); !ok || !same([]api.Entry{got}, []api.Entry{row.want}) {
			t.Errorf("Find(%q): %q, %v", row.path, show(got), ok)
		}
	}
}

func TestR3FindGivesNewMemory(t *testing.T) {
	room := []byte("012345")
	l := []api.Entry{{Path: "a", Kind: api.KindFile, Data: room[1:3]}}
	got, _ := tree.Find(l, "a")
	other, _ := tree.Find(l, "a")
	got.Data[0] = 'x'
	_ = append(got.Data, "yz"...)
	if string(room) != "012345" || string(other.Data) != "12" {
		t.Errorf("%q, %q", room, other.Data)
	}
	room[1] = 'w'
	if string(other.Data) != "12" {
		t.Errorf("kept: %q", other.Data)
	}
}

func TestR3BytesGivesNewMemory(t *testing.T) {
	l := []api.Entry{file("a", "xy"), link("b", "/z")}
	was := clone(l)
	one, two := tree.Bytes(l), tree.Bytes(l)
	for k := range one {
		one[k] = '#'
	}
	_ = append(one, '#')
	if !same(l, was) || string(two) != plainBytes(was) {
		t.Errorf("%q, %q", show(l...), two)
	}
}

// whole is a list and all the room behind it.
func whole(b []byte) []byte { return b[:cap(b)] }

func TestR3ParseGivesNewMemory(t *testing.T) {
	l := []api.Entry{file("a", "xy"), file("b", ""), file("c", "some more bytes than a few"), link("d", "/z")}
	room := append(tree.Bytes(l), "room"...)
	b := room[:len(room)-4]
	was := string(room)
	one, e := tree.Parse(b)
	two, f := tree.Parse(b)
	if e != api.OK || f != api.OK {
		t.Fatal(e, f)
	}
	for k := range one {
		for j := range whole(one[k].Data) {
			whole(one[k].Data)[j] = byte('0' + k)
		}
		if !same(one[k+1:], l[k+1:]) {
			t.Fatalf("%d shares with %q", k, show(one...))
		}
	}
	for k, x := range one {
		if strings.Trim(string(whole(x.Data)), string(rune('0'+k))) != "" {
			t.Errorf("%d shares: %q", k, whole(x.Data))
		}
	}
	if string(room) != was || !same(two, l) {
		t.Errorf("%q, %q", room, show(two...))
	}
	clear(room)
	if !same(two, l) {
		t.Errorf("kept: %q", show(two...))
	}
}

// Calls in any order, of lists with spare room, leave what is handed in as it was, and answer as they did at first.
func TestR3R4WhatIsHandedInStays(t *testing.T) {
	room := []byte("x/store/0123456789abcdef-a/z and more")
	l := []api.Entry{{Path: "a", Kind: api.KindFile, Data: room[:26]}, {Path: "b", Kind: api.KindLink, Data: room[26:28]}, file("c", "y")}
	was, list := string(room), clone(l)
	b := tree.Bytes(l)
	digest := tree.Digest(l)
	for range 3 {
		tree.Right(l[:2])
		tree.Bytes(l[:2])
		tree.Digest(l[1:])
		tree.Refs(l[:1])
		tree.Find(l[:2], "b")
		tree.Parse(b[:9])
		tree.Parse(b)
		if string(room) != was || !same(l, list) {
			t.Fatalf("%q, %q", room, show(l...))
		}
		if !bytes.Equal(tree.Bytes(l), b) || tree.Digest(l) != digest {
			t.Fatalf("%q, %q", tree.Bytes(l), tree.Digest(l))
		}
	}
}
