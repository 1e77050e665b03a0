package tree_test

import (
	"math/rand/v2"
	"slices"
	"strings"
	"testing"

	"bootjack/api"
	"bootjack/tree"
)

const ref = "/store/0123456789abcdef-"

func dataOf(all ...string) []api.Entry {
	var l []api.Entry
	for _, d := range all {
		l = append(l, api.Entry{Data: []byte(d)})
	}
	return l
}

func mustRefer(t *testing.T, data string, want ...string) {
	t.Helper()
	mustReferAll(t, dataOf(data), want...)
}

func mustReferAll(t *testing.T, l []api.Entry, want ...string) {
	t.Helper()
	if got := tree.Refs(l); !slices.Equal(got, want) {
		t.Fatalf("Refs(%q): %q, not %q", show(l...), got, want)
	}
}

func TestT2RefsOfNone(t *testing.T) {
	mustReferAll(t, nil)
	mustReferAll(t, []api.Entry{{}, {}})
	for _, d := range []string{
		"", "/", "/store", "/store/", "/store/0123456789abcdef", ref, ref + " ", ref + "/", ref + "\x00", ref + "é", ref + "\n", ref + "=", ref + ref,
		"store/0123456789abcdef-a", "/Store/0123456789abcdef-a", "/store0123456789abcdef-a", "/store//0123456789abcdef-a", "//store0123456789abcdef-a",
		"/store/0123456789abcde-a", "/store/0123456789abcdef0-a", "/store/0123456789abcdeg-a", "/store/0123456789abcdeF-a", "/store/0123456789ABCDEF-a",
		"/store/-0123456789abcde-a", "/store/+123456789abcdef-a", "/store/0x23456789abcdef-a", "/store/0123456789abcdef_a", "/store/0123456789abcdefa",
		"/store/0123456789abcdef.a", "/store/0123456789abcdef a", "/store /0123456789abcdef-a", "/store/ 123456789abcdef-a", "/stor/0123456789abcdef-a",
		"/store/012345678\n9abcdef-a", "/store/01234567/89abcdef-a",
	} {
		mustRefer(t, d)
	}
}

func TestT2RefsAtEachPlace(t *testing.T) {
	for _, ahead := range []string{"", "x", " ", "/", "//", "\n", "/store", "/store/", "/stor", "/store/0123", ref, "a/store/x", "\xff", "é", "-", strings.Repeat("x", 3000)} {
		for _, behind := range []string{"", " ", "/", "\n", "/store/", "/etc", "\x00", "é", "\xff", "=", ",x"} {
			mustRefer(t, ahead+ref+"a"+behind, ref+"a")
		}
	}
}

func TestT2RefsOfEachByteBehind(t *testing.T) {
	const may = "abcdefghijklmnopqrstuvwxyzABCDEFGHIJKLMNOPQRSTUVWXYZ0123456789._-+"
	for c := range 256 {
		s := string([]byte{byte(c)})
		if strings.Contains(may, s) {
			mustRefer(t, ref+s, ref+s)
			mustRefer(t, ref+"a"+s+"b ", ref+"a"+s+"b")
			continue
		}
		mustRefer(t, ref+s+"a")
		mustRefer(t, ref+"a"+s+"b", ref+"a")
	}
}

func TestT2RefsOfEachDigit(t *testing.T) {
	for k := range 16 {
		for c := range 256 {
			b := []byte(ref + "a")
			b[len("/store/")+k] = byte(c)
			if strings.IndexByte("0123456789abcdef", byte(c)) >= 0 {
				mustRefer(t, string(b), string(b))
				continue
			}
			mustRefer(t, string(b))
		}
	}
}

func TestT2RefsOfEachByteAhead(t *testing.T) {
	for k := range len(ref) {
		if k >= len("/store/") && k < len(ref)-1 {
			continue
		}
		for c := range 256 {
			b := []byte(ref + "a")
			if b[k] != byte(c) {
				b[k] = byte(c)
				mustRefer(t, string(b))
			}
		}
	}
}

func TestT2RefsOfNineteenBytesAtMost(t *testing.T) {
	long := "abcdefghijklmnopqrstuvwxyz-ABC"
	for n := 1; n <= len(long); n++ {
		mustRefer(t, "x"+ref+long[:n], ref+long[:min(n, 19)])
		mustRefer(t, ref+long[:n]+" "+long, ref+long[:min(n, 19)])
	}
	mustRefer(t, ref+strings.Repeat("-", 5000), ref+strings.Repeat("-", 19))
	mustRefer(t, ref+long[:19]+ref+"b", ref+long[:19], ref+"b")
	mustRefer(t, ref+long[:25]+ref+"b", ref+long[:19], ref+"b")
}

func TestT2RefsOfPathsSideBySide(t *testing.T) {
	mustRefer(t, ref+"a"+ref+"b", ref+"a", ref+"b")
	mustRefer(t, ref+ref+"b", ref+"b")
	mustRefer(t, "/store"+ref+"a", ref+"a")
	mustRefer(t, "/store/"+ref+"a", ref+"a")
	mustRefer(t, "/store/store/store"+ref+"a/store", ref+"a")
	mustRefer(t, "/store/0123456789abcdef"+ref+"a", ref+"a")
	mustRefer(t, ref+"0123456789abcdef-a", ref+"0123456789abcdef-a")
	mustRefer(t, strings.Repeat(ref+"z:", 40)+ref+"y", ref+"y", ref+"z")
}

func TestT2RefsRiseEachOnce(t *testing.T) {
	one, two := "/store/1000000000000000-a", "/store/0fffffffffffffff-z"
	mustReferAll(t, dataOf(one+" "+two+" "+one, two, "", one), two, one)
	mustReferAll(t, dataOf(ref+"b", ref+"a", ref+"B", ref+"a-", ref+"a", ref+"aa", ref+"+"), ref+"+", ref+"B", ref+"a", ref+"a-", ref+"aa", ref+"b")
}

// A store path does not go on from one entry's data to the next one's.
func TestT2RefsOfOneEntryAtATime(t *testing.T) {
	whole := ref + "abc"
	for k := 1; k < len(whole); k++ {
		l := dataOf(whole[:k], whole[k:])
		if k <= len(ref) {
			mustReferAll(t, l)
			continue
		}
		mustReferAll(t, l, whole[:k])
	}
}

func TestT2RefsOfAnyList(t *testing.T) {
	l := []api.Entry{
		{Path: ref + "path", Kind: api.KindFile, Data: []byte("x")},
		{Path: "b", Kind: api.KindLink, Data: []byte(ref + "link")},
		{Path: "b", Kind: api.KindLink, Data: []byte("no path " + ref + "no.path")},
		{Path: "a", Kind: api.KindDir, Data: []byte(ref + "dir")},
		{Path: "", Kind: -1, Data: []byte(strings.Repeat("x", 1<<17) + ref + "far")},
	}
	for range 100 {
		l = append(l, api.Entry{})
	}
	l = append(l, api.Entry{Kind: 9, Data: []byte(ref + "last")})
	mustReferAll(t, l, ref+"dir", ref+"far", ref+"last", ref+"link", ref+"no.path")
}

func TestT2RefsOfATree(t *testing.T) {
	l := []api.Entry{file("a", "run "+ref+"b/bin/x\n"), link("b", ref+"a/bin"), link("c", ref+"a")}
	mustBeTree(t, l)
	mustReferAll(t, l, ref+"a", ref+"b")
}

func TestR3RefsGivesNewMemory(t *testing.T) {
	l := dataOf(ref+"a "+ref+"a "+ref+"b", ref+"b")
	one, two := tree.Refs(l), tree.Refs(l)
	for k := range one {
		one[k] = "x"
	}
	_ = append(one, "y")
	for k := range l {
		clear(l[k].Data)
	}
	if !slices.Equal(two, []string{ref + "a", ref + "b"}) {
		t.Errorf("%q", two)
	}
}

// plainRefs asks at each place by itself, as the chapter's words do.
func plainRefs(l []api.Entry) []string {
	var out []string
	for _, x := range l {
		for k := range x.Data {
			s := string(refWords.Find(x.Data[k:]))
			if s != "" && !slices.Contains(out, s) {
				out = append(out, s)
			}
		}
	}
	slices.Sort(out)
	return out
}

func TestT3RefsByChance(t *testing.T) {
	parts := []string{
		"/store/", "/store", "/", "store/", "0123456789abcdef", "fedcba9876543210", "0000000000000000", "01234567", "89abcdef", "-", "-", "-", "a", "Z.9_+", "abcdefghijklmnopqrs",
		" ", "\n", "\x00", "g", "F", ref, ref, ref + "x", "é",
	}
	r := rand.New(rand.NewPCG(8, 2))
	seen := 0
	for range 4000 {
		var l []api.Entry
		for range r.IntN(4) {
			var d string
			for range r.IntN(24) {
				d += parts[r.IntN(len(parts))]
			}
			l = append(l, api.Entry{Kind: r.IntN(5), Data: []byte(d)})
		}
		want := plainRefs(l)
		mustReferAll(t, l, want...)
		seen += len(want)
	}
	if seen < 4000 {
		t.Error("just", seen, "store paths were seen")
	}
}

// Whatever bytes stand beside a store path, it is told; behind it none that would go on with it.
func TestT3RefsBesideAnyBytes(t *testing.T) {
	r := rand.New(rand.NewPCG(8, 3))
	for range 2000 {
		ahead, behind := make([]byte, r.IntN(40)), make([]byte, r.IntN(40))
		for k := range ahead {
			ahead[k] = byte(r.Uint32())
		}
		for k := range behind {
			behind[k] = byte(r.Uint32())
		}
		path := ref + strings.Repeat("q", 1+r.IntN(19))
		d := string(ahead) + path + " " + string(behind)
		if got := tree.Refs(dataOf(d)); !slices.Contains(got, path) {
			t.Fatalf("Refs(%q): %q without %q", d, got, path)
		}
	}
}
