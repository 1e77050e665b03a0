package store_test

import (
	"bytes"
	"fmt"
	"slices"
	"strings"
	"testing"

	"bootjack/api"
	"bootjack/disk"
	"bootjack/fs"
	"bootjack/store"
)

func file(path, data string) api.Entry {
	return api.Entry{Path: path, Kind: api.KindFile, Data: []byte(data)}
}

func link(path, to string) api.Entry {
	return api.Entry{Path: path, Kind: api.KindLink, Data: []byte(to)}
}

// of gives a tree of one file with these texts in it.
func of(texts ...string) []api.Entry {
	return []api.Entry{file("x", strings.Join(texts, " "))}
}

// forest gives a tree with some of all.
func forest() []api.Entry {
	return []api.Entry{
		file("a-b", "ahead of a/c, though a is ahead of a-b"),
		file("a/c", ""),
		file("a/d/e/f", strings.Repeat("y", 1200)),
		link("a/d/l", "/a/d"),
		file("a0", "\x00\n\xff"),
		link("to", "/store"),
	}
}

func same(a, b []api.Entry) bool {
	return slices.EqualFunc(a, b, func(x, y api.Entry) bool {
		return x.Path == y.Path && x.Kind == y.Kind && bytes.Equal(x.Data, y.Data)
	})
}

func mustBe(t *testing.T, what string, got, want api.Errno) {
	t.Helper()
	if got != want {
		t.Fatalf("%s: %d, not %d", what, got, want)
	}
}

// place is a disk, and the file system on it.
type place struct {
	*fs.FS
	t *testing.T
	d *disk.Disk
}

func mounted(t *testing.T, d *disk.Disk) *place {
	t.Helper()
	f, e := fs.Mount(d)
	mustBe(t, "Mount", e, api.OK)
	return &place{f, t, d}
}

// bare gives a file system with nothing in it on a disk of n sectors.
func bare(t *testing.T, n int) *place {
	t.Helper()
	d := disk.New(n)
	mustBe(t, "Format", fs.Format(d), api.OK)
	return mounted(t, d)
}

// made gives one with a store.
func made(t *testing.T, n int) *place {
	t.Helper()
	p := bare(t, n)
	mustBe(t, "Setup", store.Setup(p.FS), api.OK)
	return p
}

// clone gives the same on a disk of its own.
func (p *place) clone() *place {
	p.t.Helper()
	return mounted(p.t, p.d.Clone())
}

// anew mounts behind a loss of power.
func (p *place) anew() *place {
	p.t.Helper()
	p.d.Crash(0)
	mustBe(p.t, "Start", p.d.Start(), api.OK)
	return mounted(p.t, p.d)
}

func (p *place) add(name string, l []api.Entry) string {
	p.t.Helper()
	path, e := store.Add(p.FS, name, l)
	mustBe(p.t, "Add "+name, e, api.OK)
	if want := plainPath(name, l); path != want {
		p.t.Fatalf("Add %s: %s, not %s", name, path, want)
	}
	return path
}

func (p *place) mustRefuse(name string, l []api.Entry, e api.Errno) {
	p.t.Helper()
	ahead := p.shown()
	path, g := store.Add(p.FS, name, l)
	if path != "" || g != e {
		p.t.Fatalf("Add %q: %q, %d, not %d", name, path, g, e)
	}
	p.mustShow(ahead)
}

func (p *place) mustGet(path string, want []api.Entry) {
	p.t.Helper()
	l, e := store.Get(p.FS, path)
	if e != api.OK || !same(l, want) {
		p.t.Fatalf("Get %s: %q, %d, not %q", path, plainBytes(l), e, plainBytes(want))
	}
}

func (p *place) mustList(want ...string) {
	p.t.Helper()
	want = slices.Sorted(slices.Values(want))
	if l, e := store.List(p.FS); e != api.OK || !slices.Equal(l, want) {
		p.t.Fatalf("List: %q, %d, not %q", l, e, want)
	}
}

func (p *place) mustRefs(path string, want ...string) {
	p.t.Helper()
	want = slices.Sorted(slices.Values(want))
	if l, e := store.Refs(p.FS, path); e != api.OK || !slices.Equal(l, want) {
		p.t.Fatalf("Refs %s: %q, %d, not %q", path, l, e, want)
	}
}

func (p *place) mustReach(roots []string, want ...string) {
	p.t.Helper()
	want = slices.Sorted(slices.Values(want))
	if l, e := store.Reach(p.FS, roots); e != api.OK || !slices.Equal(l, want) {
		p.t.Fatalf("Reach %q: %q, %d, not %q", roots, l, e, want)
	}
}

func (p *place) mustSweep(roots []string, want ...string) {
	p.t.Helper()
	want = slices.Sorted(slices.Values(want))
	if l, e := store.Collect(p.FS, roots); e != api.OK || !slices.Equal(l, want) {
		p.t.Fatalf("Collect %q: %q, %d, not %q", roots, l, e, want)
	}
	p.mustHold()
}

// mustHold asks for what holds behind all calls: nothing is under way, and the file system is whole.
func (p *place) mustHold() {
	p.t.Helper()
	if l, e := p.List("/tmp"); e != api.OK || len(l) != 0 {
		p.t.Fatalf("/tmp: %q, %d", l, e)
	}
	mustBe(p.t, "Check", p.Check(), api.OK)
	mustBe(p.t, "Abort", p.Abort(), api.ErrTx)
}

// shown gives all that is below the root, and how much is free.
func (p *place) shown() string {
	p.t.Helper()
	var out strings.Builder
	p.show(&out, "")
	b, i, e := p.Free()
	fmt.Fprintln(&out, "free", b, i, e)
	return out.String()
}

func (p *place) show(out *strings.Builder, dir string) {
	p.t.Helper()
	names, e := p.List(dir + "/")
	if dir != "" {
		names, e = p.List(dir)
	}
	mustBe(p.t, "List "+dir, e, api.OK)
	for _, name := range names {
		path := dir + "/" + name
		s, _ := p.Stat(path)
		fmt.Fprintf(out, "%s %d", path, s.Kind)
		switch s.Kind {
		case api.KindDir:
			out.WriteByte('\n')
			p.show(out, path)
		case api.KindLink:
			to, _ := p.Readlink(path)
			fmt.Fprintf(out, " %q\n", to)
		default:
			b, _ := p.Read(path)
			fmt.Fprintf(out, " %q\n", b)
		}
	}
}

func (p *place) mustShow(want string) {
	p.t.Helper()
	if got := p.shown(); got != want {
		p.t.Fatalf("there is\n%s\nnot\n%s", got, want)
	}
}

// The chapter's table of examples, row by row.
func TestExamples(t *testing.T) {
	f := made(t, 300)
	a := of("1")
	p := f.add("a", a)
	q := f.add("b", []api.Entry{file("y", p)})
	f.mustList(p, q)
	f.mustRefs(q, p)
	f.mustReach([]string{q}, p, q)
	f.mustReach(nil)
	f.mustSweep([]string{q})
	f.mustSweep([]string{p}, q)
	if l, e := store.Get(f.FS, q); e != api.ErrStore || len(l) != 0 {
		t.Error("Get", plainBytes(l), e)
	}
	f.mustGet(p, a)
	f.mustRefuse("a/b", a, api.ErrFileName)
	f.mustRefuse("a", append(a, a...), api.ErrTree)
	f.add("a", a)
}

func TestC1Setup(t *testing.T) {
	p := bare(t, 64)
	mustBe(t, "Setup", store.Setup(p.FS), api.OK)
	for _, s := range []string{"/store", "/tmp"} {
		what, e := p.Stat(s)
		if l, g := p.List(s); e != api.OK || what.Kind != api.KindDir || g != api.OK || len(l) != 0 {
			t.Error(s, what, e, l, g)
		}
	}
	p.mustList()
	deeds, ahead := p.d.Deeds(), p.shown()
	mustBe(t, "Setup", store.Setup(p.FS), api.OK)
	if p.d.Deeds() != deeds {
		t.Error("Setup writes, where all is there")
	}
	p.mustShow(ahead)
	p.anew().mustShow(ahead)
}

// C1: one of the two may be there, and what is in it stays.
func TestC1SetupOfOneMore(t *testing.T) {
	whole := made(t, 64).shown()
	for _, s := range []string{"/store", "/tmp"} {
		p := bare(t, 64)
		mustBe(t, "Mkdir", p.Mkdir(s), api.OK)
		mustBe(t, "Setup", store.Setup(p.FS), api.OK)
		p.mustShow(whole)
	}
	p := made(t, 64)
	path := p.add("a", of("1"))
	p.Write("/other", []byte("x"))
	ahead := p.shown()
	mustBe(t, "Setup", store.Setup(p.FS), api.OK)
	p.mustShow(ahead)
	p.mustGet(path, of("1"))
}

// C1: what can't be made whole isn't made at all.
func TestC1SetupRefuses(t *testing.T) {
	for _, s := range []string{"/store", "/tmp"} {
		for _, make := range []func(p *place) api.Errno{
			func(p *place) api.Errno { return p.Write(s, []byte("x")) },
			func(p *place) api.Errno { p.Mkdir("/d"); return p.Symlink("/d", s) },
		} {
			p := bare(t, 64)
			mustBe(t, "made", make(p), api.OK)
			ahead := p.shown()
			mustBe(t, "Setup", store.Setup(p.FS), api.ErrExists)
			p.mustShow(ahead)
			mustBe(t, "Abort", p.Abort(), api.ErrTx)
		}
	}
	p := bare(t, 64)
	for k := range 13 { // one inode is left
		mustBe(t, "Write", p.Write(fmt.Sprint("/", k), nil), api.OK)
	}
	ahead := p.shown()
	mustBe(t, "Setup", store.Setup(p.FS), api.ErrNoSpace)
	p.mustShow(ahead)
	mustBe(t, "Abort", p.Abort(), api.ErrTx)
	p.d.Crash(0)
	mustBe(t, "Setup", store.Setup(p.FS), api.ErrOff)
}

// C1: power that fails leaves both, or none.
func TestC1SetupWherePowerFails(t *testing.T) {
	first := bare(t, 64)
	ahead, behind := first.shown(), made(t, 64).shown()
	got := map[string]int{}
	for after := 0; ; after++ {
		p := first.clone()
		p.d.Arm(after, ^uint64(0))
		e := store.Setup(p.FS)
		if e == api.OK {
			break
		}
		mustBe(t, "Setup", e, api.ErrPower)
		mustBe(t, "Setup", store.Setup(p.FS), api.ErrOff)
		got[p.anew().shown()]++
	}
	if got[ahead] == 0 || got[behind] == 0 || len(got) != 2 {
		t.Error(got)
	}
}

func TestC1Path(t *testing.T) {
	for _, l := range [][]api.Entry{nil, {}, of(""), of("1"), forest(), {link("l", "/")}} {
		for _, name := range []string{"a", "Z", "0", ".", "..", "-", "_", "+", "system", "a-b.c_d+E-0123456789", strings.Repeat("x", 19)} {
			p, e := store.Path(name, l)
			want, g := plainPath(name, l), api.OK
			if len(name) > 19 {
				want, g = "", api.ErrFileName
			}
			if p != want || e != g {
				t.Errorf("Path(%q): %q, %d, not %q, %d", name, p, e, want, g)
			}
		}
	}
}

func TestC1PathRefuses(t *testing.T) {
	none := [][]api.Entry{
		{file("x", "1"), file("x", "1")}, {file("y", ""), file("x", "")}, {file("", "")}, {file("/x", "")}, {file("a/b/c/d/e", "")}, {link("l", "x")},
		{{Path: "x", Kind: api.KindDir}}, {{Path: "x"}}, {file("x", strings.Repeat("x", 2049))}, {file("a", ""), file("a/b", "")},
	}
	for n := range 2 {
		l := make([]api.Entry, 24+n)
		for k := range l {
			l[k] = file(fmt.Sprintf("f%02d", k), "x")
		}
		if n > 0 {
			none = append(none, l)
		} else if _, e := store.Path("a", l); e != api.OK {
			t.Error("24 entries", e)
		}
	}
	names := []string{"", "a/b", "/", "a ", " a", "é", "a\x00", strings.Repeat("x", 20), strings.Repeat("x", 1000), "/store/0123456789abcdef-a"}
	for c := range 256 {
		if s := string([]byte{byte(c)}); !strings.Contains("abcdefghijklmnopqrstuvwxyzABCDEFGHIJKLMNOPQRSTUVWXYZ0123456789._-+", s) {
			names = append(names, s, "a"+s, s+"a", "a"+s+"b")
		} else if _, e := store.Path(s, nil); e != api.OK {
			t.Errorf("Path(%q): %d", s, e)
		}
	}
	p := made(t, 64)
	for _, name := range names {
		for _, l := range append(none, of("1")) {
			if s, e := store.Path(name, l); s != "" || e != api.ErrFileName {
				t.Errorf("Path(%q): %q, %d", name, s, e)
			}
		}
		p.mustRefuse(name, of("1"), api.ErrFileName)
	}
	for _, l := range none {
		if s, e := store.Path("a", l); s != "" || e != api.ErrTree {
			t.Errorf("Path of %q: %q, %d", plainBytes(l), s, e)
		}
		p.mustRefuse("a", l, api.ErrTree)
	}
	p.d.Crash(0)
	for name, want := range map[string]api.Errno{"/": api.ErrFileName, "a": api.ErrTree} {
		if s, e := store.Add(p.FS, name, none[0]); s != "" || e != want {
			t.Errorf("Add without power: %q, %d", s, e)
		}
	}
}

// C2: what is put in stands as files, links, and the directories on their way.
func TestC2Add(t *testing.T) {
	p := made(t, 300)
	path := p.add("all", forest())
	p.mustHold()
	var out strings.Builder
	p.show(&out, path)
	want := ""
	for _, s := range []string{
		"/a 2", "/a-b 1 \"ahead of a/c, though a is ahead of a-b\"", "/a/c 1 \"\"", "/a/d 2", "/a/d/e 2", "/a/d/e/f 1 \"" + strings.Repeat("y", 1200) + "\"", "/a/d/l 3 \"/a/d\"",
		"/a0 1 \"\\x00\\n\\xff\"", "/to 3 \"/store\"",
	} {
		want += path + s + "\n"
	}
	sorted := func(s string) []string { l := strings.Split(s, "\n"); slices.Sort(l); return l }
	if !slices.Equal(sorted(out.String()), sorted(want)) {
		t.Errorf("there is\n%s\nnot\n%s", out.String(), want)
	}
	p.mustGet(path, forest())
	p.mustList(path)
	p = p.anew()
	p.mustGet(path, forest())
}

// C2: what is there already is not put in again.
func TestC2AddAgain(t *testing.T) {
	p := made(t, 300)
	path := p.add("all", forest())
	deeds, ahead := p.d.Deeds(), p.shown()
	if again := p.add("all", forest()); again != path || p.d.Deeds() != deeds {
		t.Error("again it is", again)
	}
	p.mustShow(ahead)
	other := p.add("other", forest())
	if other == path {
		t.Error("one path by two names")
	}
	empty, none := p.add("all", nil), p.add("all", []api.Entry{})
	if empty != none {
		t.Error("of nothing", empty, none)
	}
	p.mustList(path, other, empty)
	p.mustGet(path, forest())
	p.mustGet(other, forest())
	p.mustGet(empty, nil)
	mustBe(t, "Check", p.Check(), api.OK)
}

// C2: edges of what a tree may be.
func TestC2AddEdges(t *testing.T) {
	deep := strings.Repeat("n", 27)
	long := strings.Join([]string{deep + deep[:9], deep + deep[:9], deep, deep[:18]}, "/")
	if len(long) != 120 {
		t.Fatal(len(long))
	}
	var many, links []api.Entry
	for k := range 24 {
		many = append(many, file(fmt.Sprintf("%c/b/c/d", 'a'+k), "x"))
		links = append(links, link(fmt.Sprintf("%c", 'a'+k), "/"+strings.Repeat("l/", 15)+"l"))
	}
	p := made(t, 1024)
	for _, l := range [][]api.Entry{
		{file(long, strings.Repeat("z", 2048))}, {link(long, "/"+strings.Repeat("abcdefghi/", 15)+strings.Repeat("j", 36))}, many[:20], links, {file("...", ""), file(".a", "")},
		{file("tmp", "1"), file("tmp2/store", "2")}, {link("a", "/tmp"), link("b", "/store"), link("c", "/")}, {file("a+b", ""), file("a-b", ""), file("a.b", ""), file("a/b", ""), file("a0", "")},
	} {
		path := p.add(strings.Repeat("s", 19), l)
		p.mustGet(path, l)
		p.mustHold()
		p.mustSweep(nil, path)
	}
}

// C2: a tree may be greater than what the log has room for.
func TestC2AddGreaterThanTheLog(t *testing.T) {
	var l []api.Entry
	for k := range 24 {
		l = append(l, file(fmt.Sprintf("dir/%02d", k), strings.Repeat(string(rune('a'+k)), 2048)))
	}
	p := made(t, 1024)
	ahead := p.shown()
	path := p.add("big", l)
	p.mustGet(path, l)
	p.mustHold()
	p = p.anew()
	p.mustGet(path, l)
	p.mustSweep(nil, path)
	p.mustShow(ahead)
}

// twins are two trees of one digest.
func twins() ([]api.Entry, []api.Entry) {
	return of("\xbd\x3c\xb1\x48\x0e\x90\x10\x9d"), of("\xf0\x09\xad\xce\xd8\xb0\x03\x02")
}

func TestC2Clash(t *testing.T) {
	a, b := twins()
	if plainPath("x", a) != plainPath("x", b) {
		t.Fatal("they are no twins")
	}
	p := made(t, 100)
	path := p.add("x", a)
	p.mustRefuse("x", b, api.ErrClash)
	p.mustGet(path, a)
	other := p.add("y", b)
	p.mustGet(other, b)
	p.mustRefuse("y", a, api.ErrClash)
	p.mustSweep([]string{other}, path)
	p.add("x", b)
	p.mustRefuse("x", a, api.ErrClash)
}

// C2: what stands in the store may have been altered by other hands.
func TestC2ClashByHand(t *testing.T) {
	for what, alter := range map[string]func(p *place, path string) api.Errno{
		"a byte":       func(p *place, path string) api.Errno { return p.Write(path+"/a0", []byte("\x00\n\xfe")) },
		"a file more":  func(p *place, path string) api.Errno { return p.Write(path+"/b", nil) },
		"a file less":  func(p *place, path string) api.Errno { return p.Remove(path + "/a/c") },
		"another name": func(p *place, path string) api.Errno { return p.Rename(path+"/a/c", path+"/a/x") },
		"another kind": func(p *place, path string) api.Errno {
			p.Remove(path + "/to")
			return p.Write(path+"/to", []byte("/store"))
		},
		"another link": func(p *place, path string) api.Errno {
			p.Remove(path + "/to")
			return p.Symlink("/tmp", path+"/to")
		},
		"no tree": func(p *place, path string) api.Errno { return p.Write(path+"/a0", make([]byte, 2049)) },
	} {
		p := made(t, 200)
		path := p.add("all", forest())
		mustBe(t, what, alter(p, path), api.OK)
		p.mustRefuse("all", forest(), api.ErrClash)
		p.mustList(path)
	}
}

func TestC2GetOfNone(t *testing.T) {
	p := made(t, 100)
	path := p.add("a", of("1"))
	p.Mkdir("/x")
	for _, s := range []string{
		"", "/", "/store", "/store/", "store", "/tmp", "/x", "/y", path[1:], path[7:], path + "/", path + "/x", path + "a", path[:len(path)-1] + "b", "/" + path, path[:len(path)-1], " " + path, path + "\x00",
		"/store/../tmp", "/store/.", "/store//" + path[7:], "/store/0123456789abcdef-a", strings.ToUpper(path), strings.Repeat("x", 300),
	} {
		if l, e := store.Get(p.FS, s); len(l) != 0 || e != api.ErrStore {
			t.Errorf("Get(%q): %q, %d", s, plainBytes(l), e)
		}
		if l, e := store.Refs(p.FS, s); len(l) != 0 || e != api.ErrStore {
			t.Errorf("Refs(%q): %q, %d", s, l, e)
		}
		for _, roots := range [][]string{{s}, {path, s}, {s, path}} {
			if l, e := store.Reach(p.FS, roots); len(l) != 0 || e != api.ErrStore {
				t.Errorf("Reach(%q): %q, %d", roots, l, e)
			}
			if l, e := store.Collect(p.FS, roots); len(l) != 0 || e != api.ErrStore {
				t.Errorf("Collect(%q): %q, %d", roots, l, e)
			}
		}
	}
	p.mustList(path)
	p.mustGet(path, of("1"))
}

func TestC3List(t *testing.T) {
	p := made(t, 300)
	p.mustList()
	var all []string
	for _, name := range []string{"z", "a", "+", "a-b", "Z", "m.n"} {
		for k := range 3 {
			all = append(all, p.add(name, of(fmt.Sprint(k))))
			p.mustList(slices.Clone(all)...)
		}
	}
	p.anew().mustList(all...)
}

func TestC3Refs(t *testing.T) {
	p := made(t, 300)
	a, b, c := p.add("a", of("1")), p.add("b", of("2")), p.add("c", of("3"))
	for _, x := range []struct {
		l    []api.Entry
		want []string
	}{
		{of(), nil}, {of(a), []string{a}}, {of(b, a, b, a), []string{a, b}}, {of(c + "/x" + b + a), []string{a, b, c}}, {of("/store/0123456789abcdef-a", a), []string{a}},
		{of(a + "x"), nil}, {of(a[1:]), nil}, {of(a[:len(a)-1]), nil}, {of("x" + a + " "), []string{a}},
		{[]api.Entry{link("l", a), link("m", b+"/x")}, []string{a, b}}, {[]api.Entry{file("d/e/f", c), file("g", b)}, []string{b, c}}, {[]api.Entry{file(a[7:], "")}, nil},
	} {
		q := p.add("q", x.l)
		p.mustRefs(q, x.want...)
		p.mustReach([]string{q}, append(slices.Clone(x.want), q)...)
		p.mustSweep([]string{a, b, c}, q)
	}
}

// C3: a path that stands in its own tree is not among its Refs. (No tree that is put in is likely to have its own path in it: it is altered by hand.)
func TestC3RefsOfItself(t *testing.T) {
	p := made(t, 300)
	a, b := p.add("a", of("1")), p.add("b", of("2"))
	p.Write(a+"/x", []byte(a))
	p.mustRefs(a)
	p.mustReach([]string{a}, a)
	p.Write(a+"/x", []byte(b+a))
	p.mustRefs(a, b)
	p.mustReach([]string{a}, a, b)
	p.Write(b+"/x", []byte(b+" "+a))
	p.mustRefs(b, a)
	for _, x := range []string{a, b} {
		p.mustReach([]string{x}, a, b)
		p.mustSweep([]string{x})
	}
	p.mustSweep(nil, a, b)
}

// C3: what a path leads to may not be in the store, ahead of it or any more.
func TestC3RefsInTheStore(t *testing.T) {
	p := made(t, 300)
	a := plainPath("a", of("1"))
	q := p.add("q", of(a))
	p.mustRefs(q)
	p.mustReach([]string{q}, q)
	p.add("a", of("1"))
	p.mustRefs(q, a)
	p.mustReach([]string{q}, a, q)
	p.mustSweep([]string{a}, q)
	p.add("q", of(a))
	p.mustSweep(nil, a, q)
}

func TestC3Reach(t *testing.T) {
	p := made(t, 1024)
	chain := []string{p.add("n", of("0"))}
	for k := range 30 {
		chain = append(chain, p.add(fmt.Sprint("n", k), of(chain[k])))
	}
	left, right := p.add("left", of(chain[3])), p.add("right", of(chain[3], chain[2]))
	top := p.add("top", of(left, right))
	p.mustReach(nil)
	p.mustReach([]string{})
	for k := range chain {
		p.mustReach(chain[k:k+1], chain[:k+1]...)
	}
	p.mustReach([]string{top}, append(chain[:4:4], left, right, top)...)
	p.mustReach([]string{left, right, left}, append(chain[:4:4], left, right)...)
	p.mustReach([]string{top, chain[30], chain[30], top}, append(chain[:31:31], left, right, top)...)
	p.mustReach([]string{chain[2], chain[1], chain[0]}, chain[:3]...)
}

func TestC4Collect(t *testing.T) {
	p := made(t, 400)
	a, b := p.add("a", of("1")), p.add("b", forest())
	c, d := p.add("c", of(plainPath("a", of("1")))), p.add("d", nil)
	e := p.add("e", []api.Entry{link("l", c), file("z/y", b)})
	p.mustSweep([]string{a, b, c, d, e})
	p.mustSweep([]string{d, e})
	p.mustList(a, b, c, d, e)
	p.mustSweep([]string{c, b, c}, d, e)
	p.mustList(a, b, c)
	p.mustGet(a, of("1"))
	p.mustGet(b, forest())
	p.mustSweep([]string{c}, b)
	p.mustSweep([]string{a}, c)
	p.mustGet(a, of("1"))
	p = p.anew()
	p.mustList(a)
	p.mustSweep(nil, a)
	p.mustSweep(nil)
	p.mustShow(made(t, 400).shown())
}

// C4: what is swept can be put in again, and all that it took is free.
func TestC4AllIsGivenBack(t *testing.T) {
	p := made(t, 200)
	ahead := p.shown()
	for range 40 {
		path := p.add("all", forest())
		p.mustSweep(nil, path)
		p.mustShow(ahead)
	}
}

// C4: what nobody else is to touch is not touched.
func TestC4TheRestStays(t *testing.T) {
	p := made(t, 200)
	p.Mkdir("/boot")
	p.Write("/boot/menu", []byte("menu"))
	p.Symlink("/store", "/boot/store")
	p.Symlink("/tmp", "/l")
	ahead := p.shown()
	p.mustSweep(nil, p.add("a", forest()), p.add("b", of("/boot/menu")))
	mustBe(t, "Clean", store.Clean(p.FS), api.OK)
	p.mustShow(ahead)
}

// clutter puts some of all into /tmp.
func (p *place) clutter() {
	p.t.Helper()
	p.Write("/keep", []byte("keep"))
	for _, e := range []api.Errno{
		p.Mkdir("/tmp/d"), p.Mkdir("/tmp/d/e"), p.Mkdir("/tmp/d/e/f"), p.Write("/tmp/d/e/f/g", make([]byte, 700)), p.Write("/tmp/x", nil), p.Symlink("/", "/tmp/root"),
		p.Symlink("/store", "/tmp/d/store"), p.Symlink("/nothing", "/tmp/n"), p.Symlink("/tmp/self", "/tmp/self"), p.Link("/keep", "/tmp/keep"), p.Mkdir("/tmp/empty"),
	} {
		mustBe(p.t, "clutter", e, api.OK)
	}
}

func TestC4Clean(t *testing.T) {
	p := made(t, 200)
	deeds := p.d.Deeds()
	mustBe(t, "Clean", store.Clean(p.FS), api.OK)
	if p.d.Deeds() != deeds {
		t.Error("Clean writes, where nothing is")
	}
	path := p.add("all", forest())
	p.Write("/keep", []byte("keep"))
	ahead := p.shown()
	p.clutter()
	mustBe(t, "Clean", store.Clean(p.FS), api.OK)
	p.mustShow(ahead)
	p.mustHold()
	p.mustGet(path, forest())
}

// C4: what a loss of power left in /tmp is in the way of nothing.
func TestC4WhatIsUnderWayIsNotInTheWay(t *testing.T) {
	p := made(t, 300)
	p.clutter()
	a := p.add("a", forest())
	p.mustHold()
	p.mustGet(a, forest())
	p.clutter()
	p.add("a", forest())
	p.mustHold()
	p.clutter()
	p.mustSweep([]string{a})
	p.clutter()
	p.mustSweep(nil, a)
	p.mustList()
	p.clutter()
	under := p.shown()
	for _, roots := range [][]string{{a}, {""}} {
		if l, e := store.Collect(p.FS, roots); e != api.ErrStore || len(l) != 0 {
			t.Error("Collect", l, e)
		}
	}
	p.mustRefuse("/", nil, api.ErrFileName)
	p.mustShow(under)
	if b, e := p.Read("/keep"); e != api.OK || string(b) != "keep" {
		t.Error(b, e)
	}
}

// Without power all calls end, and tell it.
func TestWithoutPower(t *testing.T) {
	p := made(t, 100)
	path := p.add("a", of("1"))
	p.d.Crash(0)
	for _, s := range []string{path, plainPath("b", nil), ""} {
		l, e := store.Get(p.FS, s)
		if e != api.ErrOff || len(l) != 0 {
			t.Error("Get", l, e)
		}
		for what, do := range map[string]func() ([]string, api.Errno){
			"List":    func() ([]string, api.Errno) { return store.List(p.FS) },
			"Refs":    func() ([]string, api.Errno) { return store.Refs(p.FS, s) },
			"Reach":   func() ([]string, api.Errno) { return store.Reach(p.FS, []string{s}) },
			"Collect": func() ([]string, api.Errno) { return store.Collect(p.FS, []string{s}) },
			"none":    func() ([]string, api.Errno) { return store.Collect(p.FS, nil) },
			"Add": func() ([]string, api.Errno) {
				s, e := store.Add(p.FS, "a", of("1"))
				return []string{s}[:len(s)], e
			},
			"Clean": func() ([]string, api.Errno) { return nil, store.Clean(p.FS) },
			"Setup": func() ([]string, api.Errno) { return nil, store.Setup(p.FS) },
		} {
			if l, e := do(); e != api.ErrOff || len(l) != 0 {
				t.Error(what, l, e)
			}
		}
	}
	p.d.Start()
	p = mounted(t, p.d)
	p.mustList(path)
}

// R1: on a file system without a store all calls end, too.
func TestR1WithoutSetup(t *testing.T) {
	for _, make := range []func(p *place){
		func(p *place) {},
		func(p *place) { p.Mkdir("/store") },
		func(p *place) { p.Mkdir("/tmp") },
		func(p *place) { p.Write("/store", nil); p.Write("/tmp", nil) },
		func(p *place) { p.Symlink("/store", "/store"); p.Symlink("/tmp", "/tmp") },
		func(p *place) { p.Symlink("/", "/store"); p.Symlink("/", "/tmp") },
		func(p *place) {
			p.Mkdir("/store")
			p.Write("/store/"+plainPath("a", of("1"))[7:], nil)
			p.Mkdir("/tmp")
		},
		func(p *place) { p.Mkdir("/store"); p.Mkdir("/tmp"); p.Begin() },
	} {
		p := bare(t, 100)
		make(p)
		store.Add(p.FS, "a", of("1"))
		store.List(p.FS)
		for _, s := range []string{plainPath("a", of("1")), "/store/tmp", ""} {
			store.Get(p.FS, s)
			store.Refs(p.FS, s)
			store.Reach(p.FS, []string{s})
			store.Collect(p.FS, []string{s})
		}
		store.Collect(p.FS, nil)
		store.Clean(p.FS)
		store.Setup(p.FS)
		p.Abort()
		mustBe(t, "Check", p.Check(), api.OK)
	}
}

// R3: neither arguments nor answers are kept or shared.
func TestMemoryIsNotShared(t *testing.T) {
	p := made(t, 300)
	l := forest()
	path := p.add("all", l)
	for _, x := range l {
		clear(x.Data[:cap(x.Data)])
	}
	clear(l)
	p.mustGet(path, forest())
	for range 2 {
		l, _ = store.Get(p.FS, path)
		for _, x := range l {
			clear(x.Data[:cap(x.Data)])
		}
		clear(l[:cap(l)])
	}
	p.mustGet(path, forest())
	l, _ = store.Get(p.FS, path)
	for k := range l {
		l[k].Data = append(l[k].Data, "spare"...)
	}
	for k, x := range forest() {
		if string(l[k].Data) != string(x.Data)+"spare" {
			t.Fatalf("%s shares its room: %q", x.Path, l[k].Data)
		}
	}
	top := p.add("top", of(path))
	for _, ask := range []func() ([]string, api.Errno){
		func() ([]string, api.Errno) { return store.List(p.FS) },
		func() ([]string, api.Errno) { return store.Refs(p.FS, top) },
		func() ([]string, api.Errno) { return store.Reach(p.FS, []string{top}) },
	} {
		a, _ := ask()
		want := slices.Clone(a)
		clear(a[:cap(a)])
		if b, e := ask(); e != api.OK || !slices.Equal(b, want) {
			t.Error(b, want)
		}
	}
	roots := []string{top, path, top}
	given := slices.Clone(roots)
	got, _ := store.Reach(p.FS, roots)
	clear(got[:cap(got)])
	p.mustSweep(roots)
	if !slices.Equal(roots, given) {
		t.Error("the roots are changed", roots)
	}
}
