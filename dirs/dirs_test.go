package dirs_test

import (
	"bytes"
	"math"
	"math/rand/v2"
	"regexp"
	"slices"
	"strings"
	"testing"

	"bootjack/alloc"
	"bootjack/api"
	"bootjack/dirs"
	"bootjack/disk"
	"bootjack/inode"
	"bootjack/wal"
)

func mustBe(t *testing.T, what string, got, want api.Errno) {
	t.Helper()
	if got != want {
		t.Fatalf("%s: %d, not %d", what, got, want)
	}
}

// place is a disk, and all that stands on it up to its directories.
type place struct {
	t *testing.T
	k *disk.Disk
	s *alloc.Space
	x *inode.Table
	d *dirs.Dirs
}

// made gives a disk of n sectors on which nothing is but the root, without a name; all is committed.
func made(t *testing.T, n int) *place {
	t.Helper()
	y, e := alloc.Lay(n)
	mustBe(t, "Lay", e, api.OK)
	k := disk.New(n)
	mustBe(t, "the log's Format", wal.Format(k, y.Log, y.LogLen), api.OK)
	l, e := wal.Open(k, y.Log, y.LogLen)
	mustBe(t, "the log's Open", e, api.OK)
	mustBe(t, "Format", alloc.Format(l, n), api.OK)
	mustBe(t, "Commit", l.Commit(), api.OK)
	p := opened(t, k)
	p.node(api.KindDir, 1)
	p.commit()
	return p
}

// opened gives what stands on a disk.
func opened(t *testing.T, k *disk.Disk) *place {
	t.Helper()
	y, e := alloc.Lay(k.Len())
	mustBe(t, "Lay", e, api.OK)
	l, e := wal.Open(k, y.Log, y.LogLen)
	mustBe(t, "the log's Open", e, api.OK)
	s, e := alloc.Open(l, k.Len())
	mustBe(t, "Open", e, api.OK)
	x := inode.Over(s)
	return &place{t, k, s, x, dirs.Over(x)}
}

func (p *place) commit() {
	p.t.Helper()
	mustBe(p.t, "Commit", p.s.Log().Commit(), api.OK)
}

func (p *place) node(kind, want int) {
	p.t.Helper()
	i, e := p.x.New(kind)
	if i != want || e != api.OK {
		p.t.Fatalf("New(%d): %d, %d, not %d", kind, i, e, want)
	}
}

// link gives a new link that leads to a path, or to what is none.
func (p *place) link(to string, want int) {
	p.t.Helper()
	p.node(api.KindLink, want)
	p.write(want, 0, to)
}

func (p *place) write(i, at int, b string) {
	p.t.Helper()
	mustBe(p.t, "Write", p.x.Write(i, at, []byte(b)), api.OK)
}

func (p *place) insert(dir int, name string, node int) {
	p.t.Helper()
	mustBe(p.t, "Insert of "+name, p.d.Insert(dir, name, node), api.OK)
}

func (p *place) delete(dir int, name string) {
	p.t.Helper()
	mustBe(p.t, "Delete of "+name, p.d.Delete(dir, name), api.OK)
}

func (p *place) mustLookup(dir int, name string, want int, e api.Errno) {
	p.t.Helper()
	if i, g := p.d.Lookup(dir, name); i != want || g != e {
		p.t.Fatalf("Lookup(%d, %q): %d, %d, not %d, %d", dir, name, i, g, want, e)
	}
}

func (p *place) mustWalk(path string, follow bool, want int, e api.Errno) {
	p.t.Helper()
	if i, g := p.d.Walk(path, follow); i != want || g != e {
		p.t.Fatalf("Walk(%q, %v): %d, %d, not %d, %d", path, follow, i, g, want, e)
	}
}

func (p *place) mustBeParent(path string, want int, name string, e api.Errno) {
	p.t.Helper()
	if i, s, g := p.d.Parent(path); i != want || s != name || g != e {
		p.t.Fatalf("Parent(%q): %d, %q, %d, not %d, %q, %d", path, i, s, g, want, name, e)
	}
}

func (p *place) mustList(dir int, want ...api.Dirent) {
	p.t.Helper()
	if l, e := p.d.List(dir); !slices.Equal(l, want) || e != api.OK {
		p.t.Fatalf("List(%d): %v, %d, not %v", dir, l, e, want)
	}
}

func (p *place) mustHaveLinks(i, want int) {
	p.t.Helper()
	if g, e := p.x.Get(i); g.Links != want || e != api.OK {
		p.t.Fatalf("Get(%d): %v, %d, not %d links", i, g, e, want)
	}
}

// mustNotBeInUse asks whether an inode is freed.
func (p *place) mustNotBeInUse(i int) {
	p.t.Helper()
	_, e := p.x.Get(i)
	mustBe(p.t, "Get", e, api.ErrInode)
}

func (p *place) mustBeStaged(want int) {
	p.t.Helper()
	if n := p.s.Log().Staged(); n != want {
		p.t.Fatalf("%d are staged, not %d", n, want)
	}
}

// bytes gives all bytes of an inode.
func (p *place) bytes(i int) []byte {
	p.t.Helper()
	b, e := p.x.Read(i, 0, api.MaxFile)
	mustBe(p.t, "Read", e, api.OK)
	return b
}

// slots gives a slot of 40 bytes for each name and inode, by the chapter's words.
func slots(list ...api.Dirent) []byte {
	var out []byte
	for _, x := range list {
		b := make([]byte, 40)
		if x.Inode != 0 {
			b[0], b[1], b[2] = byte(x.Inode%256), byte(x.Inode/256), byte(len(x.Name))
			copy(b[4:], x.Name)
		}
		out = append(out, b...)
	}
	return out
}

func (p *place) mustHaveSlots(dir int, want ...api.Dirent) {
	p.t.Helper()
	if b := p.bytes(dir); !bytes.Equal(b, slots(want...)) {
		p.t.Fatalf("the bytes of %d are %q, not %q", dir, b, slots(want...))
	}
}

// sectors gives all sectors as the log tells them.
func (p *place) sectors() []byte {
	p.t.Helper()
	var out []byte
	for i := p.s.Layout().Map; i < p.s.Layout().Sectors; i++ {
		b, e := p.s.Log().Read(i)
		mustBe(p.t, "the log's Read", e, api.OK)
		out = append(out, b...)
	}
	return out
}

// fill stages the last sectors of a disk till the log has room for just so many more.
func (p *place) fill(room int) {
	p.t.Helper()
	l, last, b := p.s.Log(), p.s.Layout().Sectors-1, make([]byte, api.SectorSize)
	most := 0
	for l.Stage(last-most, b) == api.OK {
		most++
	}
	l.Drop()
	for k := range most - room {
		mustBe(p.t, "Stage", l.Stage(last-k, b), api.OK)
	}
}

// example gives what the chapter's examples stand on.
func example(t *testing.T) *place {
	t.Helper()
	p := made(t, 64)
	p.node(api.KindDir, 2)
	p.link("/a", 3)
	p.node(api.KindFile, 4)
	p.insert(1, "a", 2)
	p.insert(1, "l", 3)
	p.insert(2, "f", 4)
	p.commit()
	return p
}

func TestExamples(t *testing.T) {
	for s, want := range map[string][]string{"/a/f": {"a", "f"}, "/": {}} {
		if l, ok := dirs.Path(s); !ok || !slices.Equal(l, want) {
			t.Fatal("Path", s, l, ok)
		}
	}
	for _, s := range []string{"a", "/a/", "//", "/.", ""} {
		if l, ok := dirs.Path(s); ok || len(l) != 0 {
			t.Fatal("Path", s, l, ok)
		}
	}
	p := example(t)
	p.mustWalk("/l/f", false, 4, api.OK)
	p.mustWalk("/l", false, 3, api.OK)
	p.mustWalk("/l", true, 2, api.OK)
	p.mustWalk("/f", true, 0, api.ErrNoEntry)
	p.mustWalk("/a/f/x", true, 0, api.ErrNotDir)
	p.mustBeParent("/l/x", 2, "x", api.OK)
	p.mustBeParent("/", 0, "", api.ErrPathName)
	p.mustBeParent("/a/f/x", 0, "", api.ErrNotDir)
	mustBe(t, "Insert", p.d.Insert(1, "a", 4), api.ErrExists)
	mustBe(t, "Insert", p.d.Insert(4, "x", 4), api.ErrNotDir)
	mustBe(t, "Insert", p.d.Insert(1, "x/y", 4), api.ErrFileName)
	mustBe(t, "Insert", p.d.Insert(1, "x", 9), api.ErrInode)
	p.mustBeStaged(0)
}

// plainName and plainPath say names and paths as the chapter does.
var plainName = regexp.MustCompile(`^[a-zA-Z0-9._+-]{1,36}$`)

func isName(s string) bool {
	return plainName.MatchString(s) && !strings.Contains(s, "\n") && s != "." && s != ".."
}

func pathOf(s string) ([]string, bool) {
	if s == "/" {
		return nil, true
	}
	l := strings.Split(s, "/")
	if len(s) > 200 || l[0] != "" || len(l) < 2 || len(l) > 17 || slices.ContainsFunc(l[1:], func(s string) bool { return !isName(s) }) {
		return nil, false
	}
	return l[1:], true
}

func mustBeAName(t *testing.T, s string, want bool) {
	t.Helper()
	if dirs.Name(s) != want {
		t.Fatalf("Name(%q) is %v", s, !want)
	}
}

func mustBeAPath(t *testing.T, s string, want []string, ok bool) {
	t.Helper()
	l, g := dirs.Path(s)
	if g != ok || !slices.Equal(l, want) {
		t.Fatalf("Path(%q): %q, %v, not %q, %v", s, l, g, want, ok)
	}
}

func TestR1Name(t *testing.T) {
	const letters = "abcdefghijklmnopqrstuvwxyzABCDEFGHIJKLMNOPQRSTUVWXYZ0123456789_-+"
	for c := range 256 {
		b := byte(c)
		mustBeAName(t, string([]byte{b}), strings.IndexByte(letters, b) >= 0)
		for _, s := range [][]byte{{b, 'a'}, {'a', b}, {'a', b, 'a'}, {'.', b, '.'}} {
			mustBeAName(t, string(s), strings.IndexByte(letters+".", b) >= 0)
		}
	}
	for _, s := range []string{"...", ".a", "a.", "..a", "-", "--", "+", strings.Repeat("z", 36), strings.Repeat(".", 36)} {
		mustBeAName(t, s, true)
	}
	for _, s := range []string{"", ".", "..", "/", "/a", "a/", "a/b", "a b", " a", "a\n", "a\x00", "é", "a\u0300", strings.Repeat("z", 37), strings.Repeat(".", 37), strings.Repeat("a", 1<<16)} {
		mustBeAName(t, s, false)
	}
}

func TestR1Path(t *testing.T) {
	n36 := strings.Repeat("n", 36)
	fits := strings.Repeat("/"+n36, 5) + "/" + strings.Repeat("m", 14) // 200 bytes
	mustBeAPath(t, fits, []string{n36, n36, n36, n36, n36, strings.Repeat("m", 14)}, true)
	mustBeAPath(t, fits+"m", nil, false)
	mustBeAPath(t, fits[:199], []string{n36, n36, n36, n36, n36, strings.Repeat("m", 13)}, true)
	mustBeAPath(t, strings.Repeat("/a", 16), slices.Repeat([]string{"a"}, 16), true)
	mustBeAPath(t, strings.Repeat("/a", 17), nil, false)
	mustBeAPath(t, strings.Repeat("/a", 16)+"/", nil, false)
	mustBeAPath(t, "/"+n36, []string{n36}, true)
	mustBeAPath(t, "/"+n36+"n", nil, false)
	mustBeAPath(t, "/a/...", []string{"a", "..."}, true)
	for _, s := range []string{"a/b", "/a//b", "/a/./b", "/a/../b", "/..", "///", "/a b", "/a/b/", " /a", "/a\x00", "\x00/a", "\n", strings.Repeat("/", 1<<16)} {
		mustBeAPath(t, s, nil, false)
	}
}

func TestR1PathsByChance(t *testing.T) {
	rng := rand.New(rand.NewPCG(6, 1))
	parts := []string{"/", "/", "/", "/a", "/B9", "a", ".", "..", "-", "+_", "/x.y", " ", "\xff", "//", strings.Repeat("q", 35), "/" + strings.Repeat("r", 12)}
	seen := map[bool]int{}
	for range 100000 {
		s := ""
		for range rng.IntN(19) {
			s += parts[rng.IntN(len(parts))]
			if rng.IntN(3) > 0 {
				s += "/p"
			}
		}
		want, ok := pathOf(s)
		mustBeAPath(t, s, want, ok)
		mustBeAName(t, s, isName(s))
		seen[ok]++
	}
	if seen[true] < 2000 || seen[false] < 2000 {
		t.Fatal(seen)
	}
}

// What Path tells is the caller's own.
func TestR1PathGivesNewMemory(t *testing.T) {
	a, _ := dirs.Path("/a/b/c")
	b, _ := dirs.Path("/a/b/c")
	a[1] = "x"
	_ = append(a[:1], "y", "z", "w")
	if !slices.Equal(b, []string{"a", "b", "c"}) {
		t.Fatal(b)
	}
	mustBeAPath(t, "/a/b/c", []string{"a", "b", "c"}, true)
}

func TestR2LookupInsertDelete(t *testing.T) {
	p := example(t)
	p.mustLookup(1, "a", 2, api.OK)
	p.mustLookup(1, "l", 3, api.OK) // a link is not gone after
	p.mustLookup(2, "f", 4, api.OK)
	for _, s := range []string{"f", "A", "aa", "l.", "-"} {
		p.mustLookup(1, s, 0, api.ErrNoEntry)
		mustBe(t, "Delete", p.d.Delete(1, s), api.ErrNoEntry)
	}
	p.insert(1, "again", 4)
	p.insert(1, strings.Repeat("w", 36), 4)
	p.mustLookup(1, strings.Repeat("w", 36), 4, api.OK)
	p.mustLookup(1, strings.Repeat("w", 35), 0, api.ErrNoEntry)
	p.mustHaveLinks(4, 3)
	p.delete(2, "f")
	p.mustLookup(2, "f", 0, api.ErrNoEntry)
	p.mustHaveLinks(4, 2)
	p.delete(1, "again")
	p.mustHaveLinks(4, 1)
	p.delete(1, strings.Repeat("w", 36))
	p.mustNotBeInUse(4)
	p.mustList(1, api.Dirent{Name: "a", Inode: 2}, api.Dirent{Name: "l", Inode: 3})
	p.mustList(2)
}

// Of several errors it is the one that is said first, and nothing is staged.
func TestR2OrderOfErrors(t *testing.T) {
	p := example(t)
	calls := map[string]func(dir int, name string) api.Errno{
		"Lookup": func(dir int, name string) api.Errno {
			i, e := p.d.Lookup(dir, name)
			if i != 0 {
				t.Fatal("an inode beside an error", i)
			}
			return e
		},
		"Insert":  func(dir int, name string) api.Errno { return p.d.Insert(dir, name, 4) },
		"Insert-": func(dir int, name string) api.Errno { return p.d.Insert(dir, name, 99) },
		"Delete":  func(dir int, name string) api.Errno { return p.d.Delete(dir, name) },
	}
	ahead := p.sectors()
	for what, call := range calls {
		for _, dir := range []int{math.MinInt, -1, 0, 5, 14, 15, 16, 128, 1 << 16, 1<<32 + 1, math.MaxInt} {
			for _, name := range []string{"a", "f", "", ".", "x/y"} {
				mustBe(t, what, call(dir, name), api.ErrInode)
			}
		}
		for _, dir := range []int{3, 4} {
			for _, name := range []string{"a", "f", "", ".", "x/y"} {
				mustBe(t, what, call(dir, name), api.ErrNotDir)
			}
		}
		for _, name := range []string{"", ".", "..", "/", "/a", "a/f", "a\x00", strings.Repeat("a", 37)} {
			mustBe(t, what, call(1, name), api.ErrFileName)
		}
	}
	for _, dir := range []int{-1, 0, 5, math.MaxInt} {
		l, e := p.d.List(dir)
		if len(l) != 0 || e != api.ErrInode {
			t.Fatal("List", l, e)
		}
	}
	for _, dir := range []int{3, 4} {
		l, e := p.d.List(dir)
		if len(l) != 0 || e != api.ErrNotDir {
			t.Fatal("List", l, e)
		}
	}
	for _, node := range []int{math.MinInt, -1, 0, 5, 15, 256 + 4, 1<<16 + 4, 1<<32 + 4, math.MaxInt} {
		mustBe(t, "Insert", p.d.Insert(1, "a", node), api.ErrExists)
		mustBe(t, "Insert", p.d.Insert(1, "new", node), api.ErrInode)
	}
	p.mustBeStaged(0)
	if !bytes.Equal(p.sectors(), ahead) {
		t.Fatal("an error has changed something")
	}
}

// Bytes of slots by the chapter's words; the first empty one is taken, and those at the end are cut off.
func TestR2Slots(t *testing.T) {
	p := made(t, 1024)
	for i := 2; i < 128; i++ {
		p.node(api.KindFile, i)
	}
	p.commit()
	ent := func(name string, i int) api.Dirent { return api.Dirent{Name: name, Inode: i} }
	none := api.Dirent{}
	w := strings.Repeat("w", 36)
	p.mustHaveSlots(1)
	p.insert(1, "one", 127)
	p.insert(1, w, 2)
	p.insert(1, "3", 3)
	p.insert(1, "a", 4)
	p.insert(1, "five", 5)
	p.mustHaveSlots(1, ent("one", 127), ent(w, 2), ent("3", 3), ent("a", 4), ent("five", 5))
	p.delete(1, w)
	p.mustHaveSlots(1, ent("one", 127), none, ent("3", 3), ent("a", 4), ent("five", 5))
	p.delete(1, "a")
	p.mustHaveSlots(1, ent("one", 127), none, ent("3", 3), none, ent("five", 5))
	p.insert(1, "x", 6)
	p.mustHaveSlots(1, ent("one", 127), ent("x", 6), ent("3", 3), none, ent("five", 5))
	p.delete(1, "five")
	p.mustHaveSlots(1, ent("one", 127), ent("x", 6), ent("3", 3))
	p.delete(1, "x")
	p.delete(1, "one")
	p.mustHaveSlots(1, none, none, ent("3", 3))
	p.insert(1, "y", 7)
	p.mustHaveSlots(1, ent("y", 7), none, ent("3", 3))
	p.delete(1, "y")
	p.delete(1, "3")
	p.mustHaveSlots(1)
	if b, e := p.x.Blocks(1); len(b) != 0 || e != api.OK {
		t.Fatal("a directory without names has blocks", b, e)
	}
}

// A slot is empty by its inode's two bytes, and by nothing else; what stood there leaves nothing behind.
func TestR2EmptySlotOrNot(t *testing.T) {
	p := example(t)
	p.write(1, 80, "\x00\x00\x05\x00ghost")
	p.write(1, 120, "\x00\x01\x03\x00far"+strings.Repeat("\x00", 33))
	p.mustList(1, api.Dirent{Name: "a", Inode: 2}, api.Dirent{Name: "far", Inode: 256}, api.Dirent{Name: "l", Inode: 3})
	p.mustLookup(1, "ghost", 0, api.ErrNoEntry)
	p.mustLookup(1, "far", 256, api.OK)
	p.insert(1, "ghost", 4)
	p.mustHaveSlots(1, api.Dirent{Name: "a", Inode: 2}, api.Dirent{Name: "l", Inode: 3}, api.Dirent{Name: "ghost", Inode: 4}, api.Dirent{Name: "far", Inode: 256})
}

func TestR2SlotIsWrittenWhole(t *testing.T) {
	p := example(t)
	p.write(1, 80, strings.Repeat("\x00\x00\xff\xff", 10)) // inode 0: it is empty, whatever stands behind
	p.insert(1, "z", 4)
	p.mustHaveSlots(1, api.Dirent{Name: "a", Inode: 2}, api.Dirent{Name: "l", Inode: 3}, api.Dirent{Name: "z", Inode: 4})
}

func TestR2List(t *testing.T) {
	p := made(t, 128)
	names := []string{"b", "a", "B", "ab", "a-", "a.", "a0", "aB", "Z", "_", "+", "-", ".a", "...", "10", "9", strings.Repeat("m", 36)}
	p.node(api.KindFile, 2)
	for _, s := range names {
		p.insert(1, s, 2)
		p.commit()
	}
	slices.Sort(names)
	var want []api.Dirent
	for _, s := range names {
		want = append(want, api.Dirent{Name: s, Inode: 2})
	}
	p.mustList(1, want...)
	p.mustHaveLinks(2, len(names))
	l, _ := p.d.List(1)
	l[0].Name = "!"
	p.mustList(1, want...)
	p.mustBeStaged(0)
}

// 409 slots are 16360 bytes; another one would end behind MaxFile.
func TestR2Big(t *testing.T) {
	p := made(t, 1024)
	p.node(api.KindFile, 2)
	for range 409 {
		mustBe(t, "Link", p.x.Link(2), api.OK)
	}
	b := []byte{}
	for k := range 409 {
		b = append(b, slots(api.Dirent{Name: "n" + string(rune('0'+k%10)) + string(rune('0'+k/10%10)) + string(rune('0'+k/100)), Inode: 2})...)
	}
	for at := 0; at < len(b)-40; at += 1000 {
		p.write(1, at, string(b[at:min(at+1000, len(b)-40)]))
		p.commit()
	}
	mustBe(t, "Unlink", p.x.Unlink(2), api.OK)
	p.insert(1, "last", 2)
	p.commit()
	p.mustHaveLinks(2, 409)
	ahead := p.sectors()
	mustBe(t, "Insert", p.d.Insert(1, "more", 2), api.ErrBig)
	mustBe(t, "Insert", p.d.Insert(1, "last", 2), api.ErrExists)
	mustBe(t, "Insert", p.d.Insert(1, "more", 3), api.ErrInode)
	for range 591 {
		mustBe(t, "Link", p.x.Link(2), api.OK)
	}
	mustBe(t, "Insert", p.d.Insert(1, "more", 2), api.ErrBig) // ahead of Link's ErrFull
	p.s.Log().Drop()
	if !bytes.Equal(p.sectors(), ahead) {
		t.Fatal("an error has changed something")
	}
	p.delete(1, "n010")
	p.insert(1, "more", 2)
	if n := p.bytes(1); len(n) != 16360 || string(n[10*40+4:10*40+8]) != "more" {
		t.Fatal("the first empty slot was not taken", len(n))
	}
	p.delete(1, "last")
	p.insert(1, "end", 2)
	mustBe(t, "Insert", p.d.Insert(1, "more2", 2), api.ErrBig)
}

func TestR2Full(t *testing.T) {
	p := example(t)
	for range 999 {
		mustBe(t, "Link", p.x.Link(4), api.OK)
	}
	p.commit()
	ahead := p.sectors()
	mustBe(t, "Insert", p.d.Insert(1, "x", 4), api.ErrFull)
	p.mustBeStaged(0)
	if !bytes.Equal(p.sectors(), ahead) {
		t.Fatal("an error has changed something")
	}
	p.delete(2, "f")
	p.insert(1, "x", 4)
	p.mustHaveLinks(4, 1000)
}

// A directory may have a name in itself: the last one frees it.
func TestR2DirectoryInItself(t *testing.T) {
	p := example(t)
	p.insert(1, "self", 1)
	p.insert(2, "up", 1)
	p.mustHaveLinks(1, 2)
	p.mustWalk("/self/self/a/up/l", true, 2, api.OK)
	p.delete(1, "self")
	p.mustHaveLinks(1, 1)
	p.insert(2, "self", 2)
	p.delete(1, "a")
	p.mustHaveLinks(2, 1)
	p.delete(2, "self")
	p.mustNotBeInUse(2)
}

// What a freed inode's name is deleted of is refused, and nothing is changed.
func TestR2FreedInode(t *testing.T) {
	p := example(t)
	mustBe(t, "Unlink", p.x.Unlink(4), api.OK)
	mustBe(t, "Unlink", p.x.Unlink(2), api.OK)
	p.commit()
	mustBe(t, "Delete", p.d.Delete(1, "a"), api.ErrInode)
	p.mustBeStaged(0)
	p.mustLookup(1, "a", 2, api.OK)
	p.mustLookup(2, "f", 0, api.ErrInode)
	p.mustWalk("/a/f", true, 0, api.ErrInode)
	p.mustBeParent("/a/f", 0, "", api.ErrInode)
	mustBe(t, "Insert", p.d.Insert(1, "a", 3), api.ErrExists)
}

// Bytes that no Insert has written: every call ends, and none panics.
func TestR2StrangeBytes(t *testing.T) {
	rng := rand.New(rand.NewPCG(6, 2))
	for round := range 300 {
		p := example(t)
		b := make([]byte, rng.IntN(400))
		for k := range b {
			if rng.IntN(3) > 0 {
				b[k] = byte(rng.IntN(256))
			}
		}
		if round%2 == 0 {
			for k := 0; k < len(b); k += 40 {
				b[k] = byte(rng.IntN(5))
				if k+1 < len(b) {
					b[k+1] = 0
				}
			}
		}
		mustBe(t, "Truncate", p.x.Truncate(1, 0), api.OK)
		p.write(1, 0, string(b))
		p.commit()
		l, e := p.d.List(1)
		mustBe(t, "List", e, api.OK)
		if len(l) > len(b)/40 || !slices.IsSortedFunc(l, func(a, b api.Dirent) int { return strings.Compare(a.Name, b.Name) }) {
			t.Fatal("List", l)
		}
		for _, x := range append(l, api.Dirent{Name: "new"}) {
			p.d.Lookup(1, x.Name)
			p.d.Walk("/"+x.Name, true)
			p.d.Insert(1, x.Name, 4)
			p.d.Parent("/" + x.Name + "/b")
			p.d.Delete(1, x.Name)
			p.s.Log().Drop()
		}
		p.insert(1, "fresh", 4)
		p.mustLookup(1, "fresh", 4, api.OK)
		p.delete(1, "fresh")
	}
}

// A slot in the middle that is made empty, ahead of some that no Delete left at the end.
func TestR2EmptySlotsAtTheEnd(t *testing.T) {
	p := example(t)
	p.insert(1, "z", 4)
	mustBe(t, "Truncate", p.x.Truncate(1, 40*7+3), api.OK)
	p.commit()
	p.delete(1, "a")
	p.mustHaveSlots(1, api.Dirent{}, api.Dirent{Name: "l", Inode: 3}, api.Dirent{Name: "z", Inode: 4})
}

// A piece of a slot at the end is none.
func TestR2PieceOfASlot(t *testing.T) {
	p := example(t)
	p.write(1, 80, strings.Repeat("\x04", 39))
	p.mustList(1, api.Dirent{Name: "a", Inode: 2}, api.Dirent{Name: "l", Inode: 3})
	p.insert(1, "z", 4)
	p.mustHaveSlots(1, api.Dirent{Name: "a", Inode: 2}, api.Dirent{Name: "l", Inode: 3}, api.Dirent{Name: "z", Inode: 4})
}

// Where there is no room the call says so, and what a Drop leaves is what was.
func TestR2NoRoom(t *testing.T) {
	p := example(t)
	for n, _ := p.s.Blocks(); n > 0; n-- {
		_, e := p.s.Block()
		mustBe(t, "Block", e, api.OK)
		p.commit()
	}
	p.insert(1, "x", 4) // the third slot ends within the block
	p.commit()
	ahead := p.sectors()
	mustBe(t, "Insert", p.d.Insert(1, "y", 4), api.ErrNoSpace)
	p.s.Log().Drop()
	if !bytes.Equal(p.sectors(), ahead) {
		t.Fatal("a drop has left something")
	}
	p.mustList(1, api.Dirent{Name: "a", Inode: 2}, api.Dirent{Name: "l", Inode: 3}, api.Dirent{Name: "x", Inode: 4})
	p.delete(1, "x")
	p.insert(1, "y", 4)
}

func TestR2LogFull(t *testing.T) {
	for room := range 6 {
		p := example(t)
		p.fill(room)
		ahead := p.sectors()
		e := p.d.Insert(2, "x", 4) // the slot's block and the sectors of the inodes 2 and 4
		if room < 3 {
			mustBe(t, "Insert", e, api.ErrLogFull)
			p.s.Log().Drop()
			if !bytes.Equal(p.sectors(), ahead) {
				t.Fatal("a drop has left something")
			}
		} else {
			mustBe(t, "Insert", e, api.OK)
		}
	}
}

// What is staged is no more than is changed.
func TestR2Staged(t *testing.T) {
	p := example(t)
	p.insert(1, "b", 4) // the inodes' sectors, two for 1 and 4, and the block
	p.mustBeStaged(3)
	p.commit()
	p.delete(1, "l") // in the middle: the block; and 3 is freed, in the same map as its block
	p.mustHaveSlots(1, api.Dirent{Name: "a", Inode: 2}, api.Dirent{}, api.Dirent{Name: "b", Inode: 4})
	p.commit()
	p.delete(2, "f") // its last name, but not that of 4: the block is freed, and 2 and 4 change
	p.mustBeStaged(3)
}

// What is dropped has not been; what is committed stands, also for others that open the disk.
func TestR2DropAndOpen(t *testing.T) {
	p := example(t)
	p.insert(1, "x", 4)
	p.delete(1, "a")
	p.s.Log().Drop()
	p.mustLookup(1, "x", 0, api.ErrNoEntry)
	p.mustLookup(1, "a", 2, api.OK)
	p.mustHaveLinks(4, 1)
	p.insert(1, "x", 4)
	p.commit()
	q := opened(t, p.k)
	q.mustLookup(1, "x", 4, api.OK)
	q.mustHaveLinks(4, 2)
	q.mustWalk("/l/f", true, 4, api.OK)
}

// Behind a loss of power the disk's error is told, but behind those that need no disk.
func TestR2NoPower(t *testing.T) {
	p := example(t)
	p.k.Crash(0)
	mustBe(t, "Insert", p.d.Insert(1, "x", 4), api.ErrOff)
	mustBe(t, "Insert", p.d.Insert(0, "x", 4), api.ErrInode)
	mustBe(t, "Delete", p.d.Delete(1, "a"), api.ErrOff)
	p.mustLookup(1, "a", 0, api.ErrOff)
	p.mustWalk("/a", true, 0, api.ErrOff)
	p.mustWalk("a", true, 0, api.ErrPathName)
	p.mustBeParent("/a/b", 0, "", api.ErrOff)
	p.mustBeParent("/a", 0, "", api.ErrOff)
	p.mustBeParent("/", 0, "", api.ErrPathName)
	if l, e := p.d.List(1); len(l) != 0 || e != api.ErrOff {
		t.Fatal("List", l, e)
	}
}

func TestR3Walk(t *testing.T) {
	p := example(t)
	for _, follow := range []bool{false, true} {
		p.mustWalk("/", follow, 1, api.OK)
		p.mustWalk("/a", follow, 2, api.OK)
		p.mustWalk("/a/f", follow, 4, api.OK)
		p.mustWalk("/l/f", follow, 4, api.OK)
		p.mustWalk("/x", follow, 0, api.ErrNoEntry)
		p.mustWalk("/x/y", follow, 0, api.ErrNoEntry)
		p.mustWalk("/a/x", follow, 0, api.ErrNoEntry)
		p.mustWalk("/l/x", follow, 0, api.ErrNoEntry)
		p.mustWalk("/a/f/f", follow, 0, api.ErrNotDir)
		p.mustWalk("/l/f/f", follow, 0, api.ErrNotDir)
		for _, s := range []string{"", "a", "/a/", "//", "/a//f", "/..", "/a/.", "/a b", strings.Repeat("/a", 17)} {
			p.mustWalk(s, follow, 0, api.ErrPathName)
			p.mustBeParent(s, 0, "", api.ErrPathName)
		}
	}
	p.mustBeStaged(0)
}

// A link is gone after from the root on, wherever it stands.
func TestR3LinksFromTheRoot(t *testing.T) {
	p := example(t)
	p.link("/a/f", 5)
	p.link("/", 6)
	p.link("/nowhere", 7)
	p.link("/in/l", 8)
	p.insert(2, "lf", 5)
	p.insert(2, "top", 6)
	p.insert(2, "lost", 7)
	p.insert(1, "far", 8)
	p.commit()
	p.node(api.KindDir, 9)
	p.insert(1, "in", 9)
	p.link("/a", 10)
	p.insert(9, "l", 10)
	p.mustWalk("/a/lf", false, 5, api.OK)
	p.mustWalk("/a/lf", true, 4, api.OK)
	p.mustWalk("/a/lf/x", false, 0, api.ErrNotDir)
	p.mustWalk("/a/top", false, 6, api.OK)
	p.mustWalk("/a/top", true, 1, api.OK)
	p.mustWalk("/a/top/a/top/l", false, 3, api.OK)
	p.mustWalk("/a/top/a/top/l", true, 2, api.OK)
	p.mustWalk("/a/lost", false, 7, api.OK)
	p.mustWalk("/a/lost", true, 0, api.ErrNoEntry)
	p.mustWalk("/a/lost/x", false, 0, api.ErrNoEntry)
	p.mustWalk("/far", false, 8, api.OK)
	p.mustWalk("/far", true, 2, api.OK)
	p.mustWalk("/far/lf", false, 5, api.OK)
	p.mustWalk("/far/lf", true, 4, api.OK)
	p.mustBeParent("/far", 1, "far", api.OK)
	p.mustBeParent("/far/x", 2, "x", api.OK)
	p.mustBeParent("/a/top/x", 1, "x", api.OK)
	p.mustBeParent("/a/lost/x", 0, "", api.ErrNoEntry)
	p.mustBeParent("/a/lost", 2, "lost", api.OK)
	p.mustBeParent("/a/lf/x", 0, "", api.ErrNotDir)
}

// A link that leads to no path is one as long as nobody goes after it.
func TestR3LinksToNoPath(t *testing.T) {
	for _, to := range []string{"", "a", "a/f", "/a/", "/.", "..", "/a\x00", strings.Repeat("/a", 17), "/a" + strings.Repeat("\x00", 300), "/" + strings.Repeat("a", 300)} {
		p := example(t)
		p.link(to, 5)
		p.insert(1, "n", 5)
		p.mustWalk("/n", false, 5, api.OK)
		p.mustWalk("/n", true, 0, api.ErrPathName)
		p.mustWalk("/n/f", false, 0, api.ErrPathName)
		p.mustBeParent("/n/f", 0, "", api.ErrPathName)
		p.mustBeParent("/n", 1, "n", api.OK)
	}
}

// The longest path that a link may lead to; the names behind it may make more than a path has.
func TestR3LongLinks(t *testing.T) {
	p := made(t, 128)
	p.node(api.KindDir, 2)
	p.insert(1, "d", 2)
	p.insert(2, "d", 2)
	p.link(strings.Repeat("/d", 16), 3)
	p.insert(2, "l", 3)
	p.mustWalk("/d/l"+strings.Repeat("/d", 14), false, 2, api.OK)
	p.mustWalk("/d/l/l/l/l", true, 2, api.OK)
	n36 := strings.Repeat("n", 36)
	p.insert(2, n36, 2)
	p.commit()
	p.link("/d"+strings.Repeat("/"+n36, 5)+"/d/d/d/d/d/d", 4) // 199 bytes
	p.insert(2, "long", 4)
	p.mustWalk("/d/long/"+n36+"/"+n36+"/"+n36, true, 2, api.OK)
	p.write(4, 199, "d")
	p.mustWalk("/d/long", true, 0, api.ErrNoEntry) // 200 bytes: /dd is a name that is not there
	p.write(4, 200, "d")
	p.mustWalk("/d/long", true, 0, api.ErrPathName)
}

// chain gives n links /1 .. of which each leads to the one ahead, the first one to the root.
func chain(t *testing.T, n int) *place {
	p := made(t, 128)
	to := "/"
	for k := range n {
		p.link(to, k+2)
		to = "/" + string(rune('a'+k))
		p.insert(1, to[1:], k+2)
		p.commit()
	}
	return p
}

func TestR3EightLinks(t *testing.T) {
	p := chain(t, 12)
	p.mustWalk("/h", true, 1, api.OK)
	p.mustWalk("/h/a", false, 2, api.OK)
	p.mustWalk("/i", true, 0, api.ErrLinks)
	p.mustWalk("/i", false, 10, api.OK)
	p.mustWalk("/h/a", true, 0, api.ErrLinks)
	p.mustWalk("/a/a/a/a/a/a/a/a", true, 1, api.OK)
	p.mustWalk("/a/a/a/a/a/a/a/a/a", true, 0, api.ErrLinks)
	p.mustWalk("/a/a/a/a/a/a/a/a/a", false, 2, api.OK)
	p.mustWalk("/a/a/a/a/a/a/a/a/a/a", false, 0, api.ErrLinks)
	p.mustWalk("/l", true, 0, api.ErrLinks)
	p.mustWalk("/h/x", true, 0, api.ErrNoEntry)
	p.mustBeParent("/h/x", 1, "x", api.OK)
	p.mustBeParent("/i/x", 0, "", api.ErrLinks)
	p.mustBeParent("/i", 1, "i", api.OK)
}

// That the ninth leads to no path is said ahead of that it is the ninth; what lies behind it is not looked at.
func TestR3NinthLink(t *testing.T) {
	p := chain(t, 9)
	p.write(2, 0, "x")
	p.mustWalk("/i", true, 0, api.ErrPathName)
	p.mustWalk("/h", true, 0, api.ErrPathName)
	p.write(2, 0, "/nowhere")
	p.mustWalk("/i", true, 0, api.ErrLinks)
	p.mustWalk("/h", true, 0, api.ErrNoEntry)
	p.mustWalk("/i/x/y", true, 0, api.ErrLinks)
}

// Links that lead to themselves.
func TestR3Loops(t *testing.T) {
	p := made(t, 64)
	p.link("/l", 2)
	p.insert(1, "l", 2)
	p.link("/k/x", 3)
	p.insert(1, "k", 3)
	p.mustWalk("/l", false, 2, api.OK)
	p.mustWalk("/l", true, 0, api.ErrLinks)
	p.mustWalk("/l/a", false, 0, api.ErrLinks)
	p.mustWalk("/k", true, 0, api.ErrLinks)
	p.mustBeParent("/k/a", 0, "", api.ErrLinks)
	p.mustBeParent("/l", 1, "l", api.OK)
}

// The root is the inode 1, whatever that is.
func TestR3Root(t *testing.T) {
	p := made(t, 64)
	mustBe(t, "Unlink", p.x.Unlink(1), api.OK)
	p.mustWalk("/", true, 1, api.OK)
	p.mustWalk("/a", true, 0, api.ErrInode)
	p.mustBeParent("/a", 0, "", api.ErrInode)
	p.link("/", 1)
	p.mustWalk("/", true, 1, api.OK)
	p.mustWalk("/a", true, 0, api.ErrNotDir)
	p.mustBeParent("/a", 0, "", api.ErrNotDir)
}
