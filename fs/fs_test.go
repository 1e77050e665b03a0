package fs_test

import (
	"bytes"
	"fmt"
	"strings"
	"testing"

	"bootjack/alloc"
	"bootjack/api"
	"bootjack/dirs"
	"bootjack/disk"
	"bootjack/fs"
	"bootjack/inode"
	"bootjack/wal"
)

func mustBe(t *testing.T, what string, got, want api.Errno) {
	t.Helper()
	if got != want {
		t.Fatalf("%s: %d, not %d", what, got, want)
	}
}

// place is a disk, and the file system on it.
type place struct {
	*fs.FS
	t *testing.T
	d *disk.Disk
}

// made gives a file system with nothing in it on a disk of n sectors.
func made(t *testing.T, n int) *place {
	t.Helper()
	d := disk.New(n)
	mustBe(t, "Format", fs.Format(d), api.OK)
	return mounted(t, d)
}

func mounted(t *testing.T, d *disk.Disk) *place {
	t.Helper()
	f, e := fs.Mount(d)
	mustBe(t, "Mount", e, api.OK)
	return &place{f, t, d}
}

// clone gives the same on a disk of its own. What is not committed is not in it.
func (p *place) clone() *place {
	p.t.Helper()
	return mounted(p.t, p.d.Clone())
}

// anew mounts behind a loss of power.
func (p *place) anew() *place {
	p.t.Helper()
	p.d.Crash(0)
	mustBe(p.t, "Start", p.d.Start(), api.OK)
	return mounted(p.t, p.d)
}

func (p *place) mkdir(paths ...string) {
	p.t.Helper()
	for _, s := range paths {
		mustBe(p.t, "Mkdir "+s, p.Mkdir(s), api.OK)
	}
}

func (p *place) write(path, b string) {
	p.t.Helper()
	mustBe(p.t, "Write "+path, p.Write(path, []byte(b)), api.OK)
}

func (p *place) symlink(target, path string) {
	p.t.Helper()
	mustBe(p.t, "Symlink "+path, p.Symlink(target, path), api.OK)
}

func (p *place) link(from, to string) {
	p.t.Helper()
	mustBe(p.t, "Link "+from+" "+to, p.Link(from, to), api.OK)
}

func (p *place) remove(paths ...string) {
	p.t.Helper()
	for _, s := range paths {
		mustBe(p.t, "Remove "+s, p.Remove(s), api.OK)
	}
}

func (p *place) rename(from, to string) {
	p.t.Helper()
	mustBe(p.t, "Rename "+from+" "+to, p.Rename(from, to), api.OK)
}

func (p *place) begin() {
	p.t.Helper()
	mustBe(p.t, "Begin", p.Begin(), api.OK)
}

func (p *place) commit() {
	p.t.Helper()
	mustBe(p.t, "Commit", p.Commit(), api.OK)
}

func (p *place) abort() {
	p.t.Helper()
	mustBe(p.t, "Abort", p.Abort(), api.OK)
}

func (p *place) check() {
	p.t.Helper()
	mustBe(p.t, "Check", p.Check(), api.OK)
}

func (p *place) mustRead(path, want string, e api.Errno) {
	p.t.Helper()
	if b, g := p.Read(path); string(b) != want || g != e {
		p.t.Fatalf("Read %s: %q, %d, not %q, %d", path, b, g, want, e)
	}
}

func (p *place) mustReadlink(path, want string, e api.Errno) {
	p.t.Helper()
	if s, g := p.Readlink(path); s != want || g != e {
		p.t.Fatalf("Readlink %s: %q, %d, not %q, %d", path, s, g, want, e)
	}
}

func (p *place) mustList(path, want string, e api.Errno) {
	p.t.Helper()
	if l, g := p.List(path); strings.Join(l, " ") != want || g != e {
		p.t.Fatalf("List %s: %q, %d, not %q, %d", path, l, g, want, e)
	}
}

func (p *place) mustStat(path string, want api.Stat, e api.Errno) {
	p.t.Helper()
	if s, g := p.Stat(path); s != want || g != e {
		p.t.Fatalf("Stat %s: %v, %d, not %v, %d", path, s, g, want, e)
	}
}

func (p *place) mustBeFree(blocks, inodes int) {
	p.t.Helper()
	if b, i, e := p.Free(); b != blocks || i != inodes || e != api.OK {
		p.t.Fatalf("Free: %d, %d, %d, not %d, %d", b, i, e, blocks, inodes)
	}
}

// shown tells all that can be seen, a line a path.
func (p *place) shown() string {
	p.t.Helper()
	var out strings.Builder
	p.show(&out, "/")
	b, i, e := p.Free()
	mustBe(p.t, "Free", e, api.OK)
	fmt.Fprintf(&out, "free %d %d\n", b, i)
	return out.String()
}

func (p *place) show(out *strings.Builder, path string) {
	p.t.Helper()
	s, e := p.Stat(path)
	mustBe(p.t, "Stat "+path, e, api.OK)
	fmt.Fprintf(out, "%s %d %d %d", path, s.Kind, s.Size, s.Inode)
	switch s.Kind {
	case api.KindFile:
		b, e := p.Read(path)
		mustBe(p.t, "Read "+path, e, api.OK)
		fmt.Fprintf(out, " %x\n", b)
	case api.KindLink:
		to, e := p.Readlink(path)
		mustBe(p.t, "Readlink "+path, e, api.OK)
		fmt.Fprintf(out, " %s\n", to)
	default:
		out.WriteByte('\n')
		names, e := p.List(path)
		mustBe(p.t, "List "+path, e, api.OK)
		for _, name := range names {
			p.show(out, strings.TrimSuffix(path, "/")+"/"+name)
		}
	}
}

func (p *place) mustShow(want string) {
	p.t.Helper()
	if got := p.shown(); got != want {
		p.t.Fatalf("there is\n%sand not\n%s", got, want)
	}
}

// raw is the layers below a file system.
type raw struct {
	l *wal.Log
	s *alloc.Space
	x *inode.Table
	d *dirs.Dirs
}

func rawOf(t *testing.T, d *disk.Disk) raw {
	t.Helper()
	y, e := alloc.Lay(d.Len())
	mustBe(t, "Lay", e, api.OK)
	l, e := wal.Open(d, y.Log, y.LogLen)
	mustBe(t, "the log's Open", e, api.OK)
	s, e := alloc.Open(l, d.Len())
	mustBe(t, "the space's Open", e, api.OK)
	x := inode.Over(s)
	return raw{l, s, x, dirs.Over(x)}
}

// F1: the sizes that a disk may have, and what is there then.
func TestF1FormatAndMount(t *testing.T) {
	for _, n := range []int{1, 16, 63} {
		d := disk.New(n)
		mustBe(t, "Format", fs.Format(d), api.ErrRange)
		f, e := fs.Mount(d)
		if f != nil || e != api.ErrRange || d.Deeds() != 0 {
			t.Fatal("Mount of", n, "sectors:", f, e, d.Deeds())
		}
		d.Crash(0)
		mustBe(t, "Format without power", fs.Format(d), api.ErrRange)
		_, e = fs.Mount(d)
		mustBe(t, "Mount without power", e, api.ErrRange)
	}
	for n := 64; n <= 1024; n++ {
		p := made(t, n)
		y, _ := alloc.Lay(n)
		p.mustList("/", "", api.OK)
		p.mustStat("/", api.Stat{Kind: api.KindDir, Inode: 1}, api.OK)
		p.mustBeFree(n-y.Data, y.Inodes-2)
		p.check()
	}
	made(t, 64).mustBeFree(41, 14)
}

// F1: there is none.
func TestF1MountOfNone(t *testing.T) {
	none := func(what string, d *disk.Disk) {
		t.Helper()
		deeds := d.Deeds()
		f, e := fs.Mount(d)
		if f != nil || e != api.ErrDamaged || d.Deeds() != deeds {
			t.Fatal(what, f, e, d.Deeds()-deeds)
		}
	}
	d := disk.New(64)
	none("a new disk", d)
	wal.Format(d, 1, 16)
	none("a log", d)
	l, _ := wal.Open(d, 1, 16)
	alloc.Format(l, 64)
	l.Commit()
	none("no root", d)
	r := rawOf(t, d)
	r.x.New(api.KindFile)
	r.x.Link(1)
	r.l.Commit()
	none("a root that is a file", d)

	whole := disk.New(128)
	fs.Format(whole)
	for _, i := range []int{0, 1} {
		for k := range 34 {
			d := whole.Clone()
			mounted(t, d) // all of it is at home
			b, _ := d.Read(i)
			b[k] ^= 1
			d.Write(i, b)
			if i == 0 && k >= 12 {
				b[k] ^= 1
				b[127]++
				d.Write(i, b)
			}
			none(fmt.Sprint("the byte ", k, " of sector ", i), d)
		}
	}
	r = rawOf(t, whole)
	r.l.Stage(0, make([]byte, api.SectorSize))
	r.l.Commit()
	none("a head that is none by the log, which is not brought home", whole)
}

// F1: without power.
func TestF1WithoutPower(t *testing.T) {
	p := made(t, 64)
	p.d.Crash(0)
	mustBe(t, "Format", fs.Format(p.d), api.ErrOff)
	f, e := fs.Mount(p.d)
	if f != nil || e != api.ErrOff {
		t.Fatal("Mount", f, e)
	}
	fresh := disk.New(64)
	fresh.Crash(0)
	mustBe(t, "Format", fs.Format(fresh), api.ErrOff)
}

// F1: Mount writes home what was committed, and nothing where all is at home.
func TestF1MountWritesHome(t *testing.T) {
	p := made(t, 64)
	p.write("/f", "x")
	r := rawOf(t, p.d)
	if r.l.Used() == 0 {
		t.Fatal("nothing is in the log")
	}
	var want [][]byte
	for i := 17; i < 64; i++ {
		b, _ := r.l.Read(i)
		want = append(want, b)
	}
	p = mounted(t, p.d)
	deeds := p.d.Deeds()
	if r := rawOf(t, p.d); r.l.Used() != 0 {
		t.Fatal("the log is used")
	}
	for i := 17; i < 64; i++ {
		if b, _ := p.d.Read(i); !bytes.Equal(b, want[i-17]) {
			t.Fatal("sector", i, "is not at home")
		}
	}
	mounted(t, p.d).mustRead("/f", "x", api.OK)
	if p.d.Deeds() != deeds {
		t.Fatal("Mount has written what was at home")
	}
}

// F1: a file system takes the place of another one.
func TestF1FormatAgain(t *testing.T) {
	p := made(t, 64)
	empty := p.shown()
	p.mkdir("/a", "/a/b")
	p.write("/a/f", strings.Repeat("x", 500))
	mustBe(t, "Format", fs.Format(p.d), api.OK)
	p = mounted(t, p.d)
	p.mustShow(empty)
	p.check()
	p.write("/g", "y")
	p.mustRead("/g", "y", api.OK)
}

// F1, F8: power fails in a Format: there is what was there ahead of it, or a file system with nothing in it.
func TestF8PowerInFormat(t *testing.T) {
	old := made(t, 64)
	old.mkdir("/a")
	old.write("/a/f", strings.Repeat("x", 300))
	old.link("/a/f", "/g")
	lost := old.d.Clone() // a file system whose log is damaged, and has what is not at home
	lost.Write(1, make([]byte, api.SectorSize))
	lost.Flush()
	empty := made(t, 64).shown()
	for _, x := range []struct {
		what  string
		d     *disk.Disk
		ahead string
	}{{"a new disk", disk.New(64), ""}, {"a file system", old.d, old.shown()}, {"a damaged one", lost, ""}} {
		got, whole := map[string]int{}, false
		for after := 0; !whole; after++ {
			for _, keep := range keeps() {
				d := x.d.Clone()
				d.Arm(after, keep)
				e := fs.Format(d)
				whole = e == api.OK
				d.Crash(keep)
				d.Start()
				is := ""
				if f, e := fs.Mount(d); e == api.OK {
					p := &place{f, t, d}
					p.check()
					is = p.shown()
				} else {
					mustBe(t, "Mount", e, api.ErrDamaged)
				}
				if is != empty && (is != x.ahead || e == api.OK) || e != api.OK && e != api.ErrPower {
					t.Fatalf("%s, %d, %x: %d and\n%s", x.what, after, keep, e, is)
				}
				got[is]++
			}
		}
		if len(got) != 2 {
			t.Fatal(x.what, len(got))
		}
	}
}

// keeps gives which of the loose writes stay: none, all, each one, all but each one, and some.
func keeps() []uint64 {
	out := []uint64{0, ^uint64(0), 0x5555555555555555, 0xaaaaaaaaaaaaaaaa, 0x0f0f0f0f0f0f0f0f}
	for k := range 20 {
		out = append(out, 1<<k, ^uint64(1<<k))
	}
	return out
}

// F2: which transaction is open, and what becomes of it.
func TestF2Transactions(t *testing.T) {
	p := made(t, 128)
	mustBe(t, "Commit", p.Commit(), api.ErrTx)
	mustBe(t, "Abort", p.Abort(), api.ErrTx)
	p.begin()
	mustBe(t, "Begin", p.Begin(), api.ErrTx)
	p.commit()
	mustBe(t, "Commit", p.Commit(), api.ErrTx)
	p.begin()
	p.abort()
	mustBe(t, "Abort", p.Abort(), api.ErrTx)
	mustBe(t, "Commit", p.Commit(), api.ErrTx)

	p.mkdir("/a")
	p.write("/a/f", "x")
	ahead := p.shown()
	p.begin()
	p.write("/a/f", "y")
	p.mkdir("/b")
	p.rename("/a/f", "/b/g")
	p.remove("/a")
	mustBe(t, "Begin", p.Begin(), api.ErrTx)
	p.mustList("/", "b", api.OK)
	p.mustRead("/b/g", "y", api.OK)
	p.check()
	behind := p.shown()
	p.clone().mustShow(ahead) // nothing is on the disk yet
	p.abort()
	p.mustShow(ahead)

	p.begin()
	p.write("/a/f", "y")
	p.mkdir("/b")
	p.rename("/a/f", "/b/g")
	p.remove("/a")
	deeds := p.d.Deeds()
	p.mustShow(behind)
	if p.d.Deeds() != deeds {
		t.Fatal("deeds ahead of Commit")
	}
	p.commit()
	p.mustShow(behind)
	p = p.anew()
	p.mustShow(behind)
	p.check()

	p.begin()
	p.remove("/b/g")
	p = p.anew() // ahead of Commit
	p.mustShow(behind)
	mustBe(t, "Commit", p.Commit(), api.ErrTx)
}

// F2: an error that a call's words name leaves the transaction as it was; a lack of room ends it.
func TestF2ErrorsWithin(t *testing.T) {
	p := made(t, 64)
	p.mkdir("/a")
	p.write("/a/f", "x")
	ahead := p.shown()
	fails := func(e api.Errno, do func() api.Errno) {
		t.Helper()
		p.begin()
		p.write("/a/g", "new")
		within := p.shown()
		mustBe(t, "within", do(), e)
		p.mustShow(within)
		p.write("/a/h", "more")
		p.commit()
		p = p.anew()
		p.mustList("/a", "f g h", api.OK)
		p.remove("/a/h", "/a/g")
		p.mustShow(ahead)
		p.check()
	}
	fails(api.ErrExists, func() api.Errno { return p.Mkdir("/a") })
	fails(api.ErrIsDir, func() api.Errno { return p.Write("/a", nil) })
	fails(api.ErrBig, func() api.Errno { return p.Write("/big", make([]byte, 16385)) })
	fails(api.ErrPathName, func() api.Errno { return p.Symlink("a", "/l") })
	fails(api.ErrNotDir, func() api.Errno { return p.Link("/a/f", "/a/f/x") })
	fails(api.ErrNotEmpty, func() api.Errno { return p.Remove("/a") })
	fails(api.ErrWithin, func() api.Errno { return p.Rename("/a", "/a/b") })
	fails(api.ErrTx, p.Begin)
	fails(api.ErrNoEntry, func() api.Errno { _, e := p.Read("/no"); return e })

	ends := func(e api.Errno, do func() api.Errno) {
		t.Helper()
		p.begin()
		p.write("/a/g", "new")
		mustBe(t, "within", do(), e)
		p.mustShow(ahead)
		mustBe(t, "Commit", p.Commit(), api.ErrTx)
		mustBe(t, "Abort", p.Abort(), api.ErrTx)
		p.check()
		p = p.anew()
		p.mustShow(ahead)
	}
	ends(api.ErrNoSpace, func() api.Errno { return p.Write("/big", make([]byte, 16384)) })
	ends(api.ErrLogFull, func() api.Errno { return p.Write("/big", make([]byte, 20*128)) })
	ends(api.ErrNoSpace, func() api.Errno { return p.Write("/a/f", make([]byte, 16384)) })
	ends(api.ErrLogFull, func() api.Errno { return p.Write("/a/f", make([]byte, 20*128)) })
	mustBe(t, "by itself", p.Write("/big", make([]byte, 16384)), api.ErrNoSpace)
	mustBe(t, "by itself", p.Write("/big", make([]byte, 20*128)), api.ErrLogFull)
	p.mustShow(ahead)
	p.write("/a/f", "still")
}

// F3: Mkdir.
func TestF3Mkdir(t *testing.T) {
	p := made(t, 64)
	p.mkdir("/a", "/a/b", "/a/b/c")
	p.write("/f", "x")
	p.symlink("/a/b", "/l")
	p.symlink("/no", "/n")
	p.mkdir("/l/d")
	p.mustList("/a/b", "c d", api.OK)
	p.mustList("/a/b/c", "", api.OK)
	p.mustStat("/a", api.Stat{Kind: api.KindDir, Inode: 2}, api.OK)
	p.mustStat("/a/b/c", api.Stat{Kind: api.KindDir, Inode: 4}, api.OK)
	for path, e := range map[string]api.Errno{
		"/": api.ErrPathName, "": api.ErrPathName, "a": api.ErrPathName, "/a/": api.ErrPathName, "/..": api.ErrPathName,
		"/" + strings.Repeat("x", 37): api.ErrPathName, strings.Repeat("/x", 17): api.ErrPathName,
		"/a": api.ErrExists, "/f": api.ErrExists, "/l": api.ErrExists, "/n": api.ErrExists, "/l/c": api.ErrExists,
		"/no/x": api.ErrNoEntry, "/n/x": api.ErrNoEntry, "/f/x": api.ErrNotDir,
	} {
		mustBe(t, "Mkdir "+path, p.Mkdir(path), e)
	}
	p.check()
}

// F3: the longest names and paths.
func TestF3LongPaths(t *testing.T) {
	p := made(t, 128)
	path := ""
	for range 16 {
		path += "/a"
		p.mkdir(path)
	}
	mustBe(t, "Mkdir", p.Mkdir(path+"/a"), api.ErrPathName)
	path = ""
	for len(path) < 185 {
		path += "/" + strings.Repeat("n", 36)
		p.mkdir(path)
	}
	path += "/" + strings.Repeat("n", 199-len(path))
	if len(path) != 200 {
		t.Fatal(len(path))
	}
	p.write(path, "x")
	p.symlink(path, "/l")
	p.mustRead("/l", "x", api.OK)
	p.mustReadlink("/l", path, api.OK)
	mustBe(t, "Write", p.Write(path+"n", nil), api.ErrPathName)
	mustBe(t, "Symlink", p.Symlink(path+"n", "/m"), api.ErrPathName)
	p.check()
}

// F3: Write.
func TestF3Write(t *testing.T) {
	p := made(t, 1024)
	p.mkdir("/a")
	p.symlink("/a/f", "/to")
	mustBe(t, "a link that leads to nothing", p.Write("/to", []byte("x")), api.ErrNoEntry)
	p.write("/a/f", "abc")
	p.write("/to", "defg")
	p.mustRead("/a/f", "defg", api.OK)
	p.mustStat("/a/f", api.Stat{Kind: api.KindFile, Size: 4, Inode: 4}, api.OK)
	p.mustReadlink("/to", "/a/f", api.OK)
	free, nodes, _ := p.Free()
	for _, n := range []int{0, 1, 127, 128, 129, 1023, 1024, 1025, 9216, 9217, 12000, 3000, 128, 0, 5} {
		b := []byte(strings.Repeat(fmt.Sprint(n, "."), 16384))[:n]
		p.write("/a/f", string(b))
		p.mustRead("/a/f", string(b), api.OK)
		p.mustStat("/a/f", api.Stat{Kind: api.KindFile, Size: n, Inode: 4}, api.OK)
		p.mustBeFree(free+1-blocksOf(n), nodes)
		p.check()
	}
	p.symlink("/a", "/d")
	p.symlink("/one", "/two")
	p.symlink("/two", "/one")
	p.write("/d/new", "n")
	p.mustRead("/a/new", "n", api.OK)
	for path, e := range map[string]api.Errno{
		"/": api.ErrIsDir, "/a": api.ErrIsDir, "/d": api.ErrIsDir, "": api.ErrPathName, "x": api.ErrPathName, "/a/.": api.ErrPathName,
		"/no/x": api.ErrNoEntry, "/a/f/x": api.ErrNotDir, "/one": api.ErrLinks, "/two/x": api.ErrLinks,
	} {
		mustBe(t, "Write "+path, p.Write(path, nil), e)
		mustBe(t, "Write of much "+path, p.Write(path, make([]byte, 16385)), api.ErrBig)
	}
	mustBe(t, "all that a file may have, which the log has no room for", p.Write("/a/g", make([]byte, 16384)), api.ErrLogFull)
	p.check()
}

// F3: Symlink.
func TestF3Symlink(t *testing.T) {
	p := made(t, 64)
	p.mkdir("/a")
	p.symlink("/", "/a/r")
	p.symlink("/a/r/a/r", "/a/s")
	p.symlink("/no/thing", "/n")
	p.mustReadlink("/a/r", "/", api.OK)
	p.mustReadlink("/a/s/a/s", "/a/r/a/r", api.OK)
	p.mustList("/a/s", "a n", api.OK)
	p.mustStat("/a/s", api.Stat{Kind: api.KindLink, Size: 8, Inode: 4}, api.OK)
	long := "/" + strings.Repeat("m", 36)
	p.symlink(strings.Repeat(long, 5), "/long")
	p.mustReadlink("/long", strings.Repeat(long, 5), api.OK)
	for _, x := range []struct {
		target, path string
		e            api.Errno
	}{
		{"", "/x", api.ErrPathName}, {"a", "/a", api.ErrPathName}, {"/a/", "/no/x", api.ErrPathName}, {"/..", "", api.ErrPathName},
		{"/a", "", api.ErrPathName}, {"/a", "/", api.ErrPathName}, {"/a", "/no/x", api.ErrNoEntry}, {"/a", "/n/x", api.ErrNoEntry},
		{"/a", "/a", api.ErrExists}, {"/a", "/n", api.ErrExists}, {"/a", "/a/r", api.ErrExists},
	} {
		mustBe(t, "Symlink "+x.target+" "+x.path, p.Symlink(x.target, x.path), x.e)
	}
	p.check()
}

// F4: Link.
func TestF4Link(t *testing.T) {
	p := made(t, 64)
	p.mkdir("/a")
	p.write("/f", "x")
	p.symlink("/a", "/l")
	p.link("/f", "/a/g")
	p.link("/l/g", "/l/h")
	p.link("/l", "/m")
	p.mustReadlink("/m", "/a", api.OK)
	p.write("/m/h", "yz")
	file := api.Stat{Kind: api.KindFile, Size: 2, Inode: 3}
	for _, path := range []string{"/f", "/a/g", "/l/h"} {
		p.mustRead(path, "yz", api.OK)
		p.mustStat(path, file, api.OK)
	}
	for _, x := range []struct {
		from, to string
		e        api.Errno
	}{
		{"", "/x", api.ErrPathName}, {"/no", "", api.ErrNoEntry}, {"/f/x", "", api.ErrNotDir}, {"/a", "", api.ErrIsDir}, {"/", "/x", api.ErrIsDir},
		{"/f", "", api.ErrPathName}, {"/f", "/", api.ErrPathName}, {"/f", "/no/x", api.ErrNoEntry}, {"/f", "/f/x", api.ErrNotDir},
		{"/f", "/f", api.ErrExists}, {"/f", "/a", api.ErrExists}, {"/f", "/l", api.ErrExists},
	} {
		mustBe(t, "Link "+x.from+" "+x.to, p.Link(x.from, x.to), x.e)
	}
	p.check()
	p.remove("/f", "/a/g")
	p.mustRead("/a/h", "yz", api.OK)
	p.mustStat("/a/h", file, api.OK)
	p.remove("/l")
	p.mustReadlink("/m", "/a", api.OK)
	p.check()
}

// F4: Remove.
func TestF4Remove(t *testing.T) {
	p := made(t, 300)
	empty := p.shown()
	p.mkdir("/a", "/a/b")
	p.write("/a/f", strings.Repeat("x", 1100))
	p.symlink("/a", "/l")
	p.symlink("/no", "/n")
	for path, e := range map[string]api.Errno{
		"/": api.ErrPathName, "": api.ErrPathName, "a": api.ErrPathName, "/no": api.ErrNoEntry, "/no/x": api.ErrNoEntry, "/n/x": api.ErrNoEntry,
		"/a/f/x": api.ErrNotDir, "/a": api.ErrNotEmpty, "/a/b/x": api.ErrNoEntry,
	} {
		mustBe(t, "Remove "+path, p.Remove(path), e)
	}
	p.remove("/l/f", "/l/b")
	p.mustList("/a", "", api.OK)
	p.remove("/l", "/n", "/a")
	p.mustRead("/l", "", api.ErrNoEntry)
	p.mustShow(empty)
	p.check()
}

// F5: Rename, and its errors one behind the other.
func TestF5Rename(t *testing.T) {
	p := made(t, 128)
	p.mkdir("/a", "/a/b", "/a/b/c", "/e", "/e2", "/full")
	p.write("/full/x", "1")
	p.write("/f", "f")
	p.write("/g", "g")
	p.link("/f", "/f2")
	p.symlink("/a", "/l")
	p.symlink("/a/b/c", "/in")
	ahead := p.shown()
	for _, x := range []struct {
		from, to string
		e        api.Errno
	}{
		{"", "", api.ErrPathName}, {"/", "/x", api.ErrPathName}, {"/no/x", "", api.ErrNoEntry}, {"/f/x", "", api.ErrNotDir}, {"/no", "", api.ErrNoEntry},
		{"/f", "", api.ErrPathName}, {"/f", "/", api.ErrPathName}, {"/f", "/no/x", api.ErrNoEntry}, {"/a", "/f/x", api.ErrNotDir},
		{"/f", "/f", api.OK}, {"/f", "/f2", api.OK}, {"/a", "/a", api.OK}, {"/a", "/in/../a", api.ErrPathName}, {"/l", "/l", api.OK},
		{"/a", "/a/x", api.ErrWithin}, {"/a", "/a/b", api.ErrWithin}, {"/a", "/a/b/c/x", api.ErrWithin}, {"/a", "/l/x", api.ErrWithin},
		{"/a", "/in/x", api.ErrWithin}, {"/l/b", "/in/x", api.ErrWithin}, {"/a/b", "/a/b/c", api.ErrWithin},
		{"/a", "/f", api.ErrNotDir}, {"/a", "/l", api.ErrNotDir}, {"/a", "/full", api.ErrNotEmpty}, {"/a/b/c", "/a/b", api.ErrNotEmpty}, {"/a/b/c", "/a", api.ErrNotEmpty},
		{"/f", "/e", api.ErrIsDir}, {"/f", "/full", api.ErrIsDir}, {"/l", "/e", api.ErrIsDir}, {"/full/x", "/full", api.ErrIsDir},
	} {
		mustBe(t, "Rename "+x.from+" "+x.to, p.Rename(x.from, x.to), x.e)
		p.mustShow(ahead)
	}
	p.check()
	inode := func(path string) int { s, _ := p.Stat(path); return s.Inode }
	moves := func(from, to string) {
		t.Helper()
		was := inode(from)
		p.rename(from, to)
		if inode(to) != was {
			t.Fatal(to, "is", inode(to), "not", was)
		}
		if e := p.Rename(from, to); e != api.ErrNoEntry {
			t.Fatal("there is still", from, e)
		}
		p.check()
	}
	moves("/f", "/h")
	p.remove("/f2")
	moves("/h", "/f2")
	moves("/f2", "/g")   // in place of a file
	moves("/g", "/l2")   // to where nothing is
	moves("/l2", "/in")  // in place of a link
	moves("/l", "/in")   // a link in place of a file
	moves("/in", "/e/l") // into another directory
	moves("/a/b", "/e2") // a directory in place of an empty one
	moves("/e2", "/a/b")
	moves("/a", "/e/a")
	moves("/e/a/b/c", "/c")
	p.mustReadlink("/e/l", "/a", api.OK)
	p.mustList("/", "c e full", api.OK)
	p.mustList("/e", "a l", api.OK)
	p.mustList("/e/a", "b", api.OK)
	p.mustList("/e/a/b", "", api.OK)
	p = p.anew()
	p.mustList("/e", "a l", api.OK)
	p.check()
}

// F6: what is told of files, links and directories.
func TestF6Looks(t *testing.T) {
	p := made(t, 128)
	p.mkdir("/d", "/d/b", "/d/B", "/d/a.b", "/d/a+b", "/d/a-b", "/d/a_b", "/d/a", "/d/10", "/d/9")
	p.write("/f", "bytes")
	p.write("/none", "")
	p.symlink("/f", "/lf")
	p.symlink("/d", "/ld")
	p.symlink("/lf", "/llf")
	p.symlink("/no", "/ln")
	p.mustList("/d", "10 9 B a a+b a-b a.b a_b b", api.OK)
	p.mustList("/ld", "10 9 B a a+b a-b a.b a_b b", api.OK)
	p.mustList("/", "d f ld lf llf ln none", api.OK)
	p.mustList("/d/a", "", api.OK)
	p.mustRead("/f", "bytes", api.OK)
	p.mustRead("/llf", "bytes", api.OK)
	p.mustRead("/none", "", api.OK)
	p.mustReadlink("/llf", "/lf", api.OK)
	p.mustStat("/llf", api.Stat{Kind: api.KindLink, Size: 3, Inode: 16}, api.OK)
	p.mustStat("/d", api.Stat{Kind: api.KindDir, Inode: 2}, api.OK)
	p.mustStat("/ld/b", api.Stat{Kind: api.KindDir, Inode: 3}, api.OK)
	for _, x := range []struct {
		path                       string
		read, readlink, list, stat api.Errno
	}{
		{"", api.ErrPathName, api.ErrPathName, api.ErrPathName, api.ErrPathName},
		{"/d/", api.ErrPathName, api.ErrPathName, api.ErrPathName, api.ErrPathName},
		{"/no", api.ErrNoEntry, api.ErrNoEntry, api.ErrNoEntry, api.ErrNoEntry},
		{"/f/x", api.ErrNotDir, api.ErrNotDir, api.ErrNotDir, api.ErrNotDir},
		{"/", api.ErrIsDir, api.ErrNotLink, api.OK, api.OK},
		{"/d", api.ErrIsDir, api.ErrNotLink, api.OK, api.OK},
		{"/ld", api.ErrIsDir, api.OK, api.OK, api.OK},
		{"/f", api.OK, api.ErrNotLink, api.ErrNotDir, api.OK},
		{"/lf", api.OK, api.OK, api.ErrNotDir, api.OK},
		{"/ln", api.ErrNoEntry, api.OK, api.ErrNoEntry, api.OK},
	} {
		b, e := p.Read(x.path)
		mustBe(t, "Read "+x.path, e, x.read)
		s, e := p.Readlink(x.path)
		mustBe(t, "Readlink "+x.path, e, x.readlink)
		l, e := p.List(x.path)
		mustBe(t, "List "+x.path, e, x.list)
		what, e := p.Stat(x.path)
		mustBe(t, "Stat "+x.path, e, x.stat)
		if x.read != api.OK && len(b) > 0 || x.readlink != api.OK && s != "" || x.list != api.OK && len(l) > 0 || x.stat != api.OK && what != (api.Stat{}) {
			t.Fatal(x.path, "tells something beside an error", b, s, l, what)
		}
	}
}

// F6: eight links one behind the other are gone after, a ninth is not.
func TestF6ManyLinks(t *testing.T) {
	p := made(t, 128)
	p.write("/l0", "x")
	for k := 1; k <= 9; k++ {
		p.symlink(fmt.Sprint("/l", k-1), fmt.Sprint("/l", k))
	}
	p.mustRead("/l8", "x", api.OK)
	p.mustRead("/l9", "", api.ErrLinks)
	p.mustReadlink("/l9", "/l8", api.OK)
	mustBe(t, "Write", p.Write("/l9", nil), api.ErrLinks)
	mustBe(t, "Write", p.Write("/l8", []byte("y")), api.OK)
	p.mustRead("/l0", "y", api.OK)
}

// F6: Free, by each thing that takes blocks and inodes.
func TestF6Free(t *testing.T) {
	p := made(t, 64)
	p.mkdir("/a") // the root's first block
	p.mustBeFree(40, 13)
	p.write("/f", "")
	p.mustBeFree(40, 12)
	p.write("/f", "x")
	p.mustBeFree(39, 12)
	p.symlink("/"+strings.Repeat("a", 36)+"/"+strings.Repeat("b", 36)+"/"+strings.Repeat("c", 36)+"/"+strings.Repeat("d", 36), "/a/l")
	p.mustBeFree(36, 11) // two for where it leads, one for the directory's slot
	p.link("/f", "/g")
	p.mustBeFree(36, 11)
	p.begin()
	p.link("/f", "/h") // the fourth slot stands in two blocks
	p.mustBeFree(35, 11)
	p.remove("/h")
	p.mustBeFree(36, 11)
	p.write("/f", strings.Repeat("x", 1025))
	p.mustBeFree(36+1-10, 11) // nine parts and an index
	p.abort()
	p.mustBeFree(36, 11)
	p.remove("/g", "/f", "/a/l", "/a")
	p.mustBeFree(41, 14)
}

// The examples of the chapter.
func TestExamples(t *testing.T) {
	p := made(t, 64)
	p.mkdir("/a")
	p.write("/a/f", "x")
	p.mustRead("/a/f", "x", api.OK)
	p.mustList("/", "a", api.OK)
	mustBe(t, "Mkdir", p.Mkdir("/a"), api.ErrExists)
	mustBe(t, "Remove", p.Remove("/a"), api.ErrNotEmpty)
	p.symlink("/a", "/l")
	p.mustRead("/l/f", "x", api.OK)
	p.mustReadlink("/l", "/a", api.OK)
	p.mustStat("/l", api.Stat{Kind: api.KindLink, Size: 2, Inode: 4}, api.OK)
	p.mustRead("/l", "", api.ErrIsDir)
	mustBe(t, "Rename", p.Rename("/a", "/a/b"), api.ErrWithin)
	p.rename("/a/f", "/g")
	p.link("/g", "/h")
	p.write("/h", "y")
	p.mustRead("/g", "y", api.OK)
	p.begin()
	p.remove("/g", "/h")
	p.mustRead("/g", "", api.ErrNoEntry)
	p.abort()
	p.mustRead("/g", "y", api.OK)
}

// What is handed in is not kept, and what is told is the caller's own.
func TestR3Memory(t *testing.T) {
	p := made(t, 64)
	b := []byte("abc")
	p.begin()
	mustBe(t, "Write", p.Write("/f", b), api.OK)
	copy(b, "xyz")
	p.mustRead("/f", "abc", api.OK)
	got, _ := p.Read("/f")
	clear(got[:cap(got)])
	p.mustRead("/f", "abc", api.OK)
	p.commit()
	got, _ = p.Read("/f")
	clear(got[:cap(got)])
	p.mustRead("/f", "abc", api.OK)
	names, _ := p.List("/")
	names[0] = "x"
	p.mustList("/", "f", api.OK)
	if string(b) != "xyz" {
		t.Fatal("Write has changed what it was handed")
	}
}

// Without power each call answers ErrOff, and the transaction is over.
func TestPowerIsGone(t *testing.T) {
	p := made(t, 64)
	p.mkdir("/a")
	p.write("/f", "x")
	ahead := p.shown()
	calls := map[string]func(f *fs.FS) api.Errno{
		"Begin":    func(f *fs.FS) api.Errno { return f.Begin() },
		"Commit":   func(f *fs.FS) api.Errno { return f.Commit() },
		"Abort":    func(f *fs.FS) api.Errno { return f.Abort() },
		"Mkdir":    func(f *fs.FS) api.Errno { return f.Mkdir("/b") },
		"Write":    func(f *fs.FS) api.Errno { return f.Write("/f", nil) },
		"Read":     func(f *fs.FS) api.Errno { b, e := f.Read("/f"); return nothing(t, len(b) == 0, e) },
		"Symlink":  func(f *fs.FS) api.Errno { return f.Symlink("/a", "/l") },
		"Readlink": func(f *fs.FS) api.Errno { s, e := f.Readlink("/f"); return nothing(t, s == "", e) },
		"Link":     func(f *fs.FS) api.Errno { return f.Link("/f", "/g") },
		"Remove":   func(f *fs.FS) api.Errno { return f.Remove("/a") },
		"Rename":   func(f *fs.FS) api.Errno { return f.Rename("/f", "/g") },
		"List":     func(f *fs.FS) api.Errno { l, e := f.List("/"); return nothing(t, len(l) == 0, e) },
		"Stat":     func(f *fs.FS) api.Errno { s, e := f.Stat("/f"); return nothing(t, s == api.Stat{}, e) },
		"Free":     func(f *fs.FS) api.Errno { b, i, e := f.Free(); return nothing(t, b == 0 && i == 0, e) },
		"Check":    func(f *fs.FS) api.Errno { return f.Check() },
		"no path":  func(f *fs.FS) api.Errno { return f.Mkdir("") },
		"no link":  func(f *fs.FS) api.Errno { _, e := f.Readlink("x"); return e },
		"too much": func(f *fs.FS) api.Errno { return f.Write("/f", make([]byte, 16385)) },
	}
	for name, call := range calls {
		c := p.clone()
		c.begin()
		c.write("/f", "new")
		c.d.Crash(^uint64(0))
		mustBe(t, name, call(c.FS), api.ErrOff)
		for other, again := range calls {
			mustBe(t, other+" behind "+name, again(c.FS), api.ErrOff)
		}
		c.d.Start()
		for other, again := range calls {
			mustBe(t, other+", not mounted anew", again(c.FS), api.ErrOff)
		}
		mounted(t, c.d).mustShow(ahead)
	}
	p.begin()
	p.write("/f", "new")
	p.d.Arm(0, 0)
	mustBe(t, "Commit", p.Commit(), api.ErrPower)
	mustBe(t, "Commit", p.Commit(), api.ErrOff)
	p = p.anewAs(ahead)
	p.d.Arm(0, 0)
	mustBe(t, "Mkdir", p.Mkdir("/b"), api.ErrPower)
	mustBe(t, "Mkdir", p.Mkdir("/b"), api.ErrOff)
	p.anewAs(ahead)
}

// nothing answers e on, where beside it nothing is told.
func nothing(t *testing.T, zero bool, e api.Errno) api.Errno {
	t.Helper()
	if !zero {
		t.Fatal("something beside an error")
	}
	return e
}

// anewAs starts a disk that has lost power, and holds what is there against what must be.
func (p *place) anewAs(want string) *place {
	p.t.Helper()
	mustBe(p.t, "Start", p.d.Start(), api.OK)
	p = mounted(p.t, p.d)
	p.mustShow(want)
	p.check()
	return p
}

// A refusal and a look write nothing, and what is the same at both ends of a Rename neither.
func TestWhatWritesNothing(t *testing.T) {
	p := made(t, 64)
	p.mkdir("/a")
	p.write("/f", "x")
	p.link("/f", "/g")
	p.d.Arm(0, 0)
	p.shown()
	p.check()
	mustBe(t, "Mkdir", p.Mkdir("/a"), api.ErrExists)
	mustBe(t, "Remove", p.Remove("/no"), api.ErrNoEntry)
	mustBe(t, "Write", p.Write("/much", make([]byte, 16384)), api.ErrNoSpace)
	p.rename("/f", "/g")
	p.begin()
	p.write("/f", "y")
	p.abort()
	p.begin()
	p.commit()
	if !p.d.Up() {
		t.Fatal("something was written")
	}
	p.mustList("/", "a f g", api.OK)
}

// blocksOf counts the blocks of so many bytes, part by part, as chapter 5 says.
func blocksOf(size int) int {
	n, part := 0, 0
	for ; part*128 < size; part++ {
		n++
		if part == 8 || part == 72 || part >= 72 && (part-72)%64 == 0 {
			n++ // an index begins, or the double index and its first one
		}
		if part == 72 {
			n++
		}
	}
	return n
}
