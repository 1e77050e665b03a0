package fs_test

import (
	"fmt"
	"math/rand/v2"
	"regexp"
	"slices"
	"strings"
	"testing"

	"bootjack/alloc"
	"bootjack/api"
	"bootjack/disk"
	"bootjack/fs"
)

// thing is an inode as the chapters' words say it: a file's bytes, where a link leads, or a directory's slots.
type thing struct {
	kind, names int
	data        string
	slots       []api.Dirent // an empty one is without an inode
}

func (x *thing) find(name string) int {
	return slices.IndexFunc(x.slots, func(d api.Dirent) bool { return d.Inode != 0 && d.Name == name })
}

func (x *thing) list() []api.Dirent {
	out := slices.DeleteFunc(slices.Clone(x.slots), func(d api.Dirent) bool { return d.Inode == 0 })
	slices.SortFunc(out, func(a, b api.Dirent) int { return strings.Compare(a.Name, b.Name) })
	return out
}

func (x *thing) blocks() int {
	if x.kind == api.KindDir {
		return blocksOf(40 * len(x.slots))
	}
	return blocksOf(len(x.data))
}

// plain is a file system as plain lists, and how many blocks and inodes it may have.
type plain struct {
	things         map[int]*thing
	blocks, inodes int
}

func newPlain(n int) *plain {
	y, _ := alloc.Lay(n)
	return &plain{map[int]*thing{1: {kind: api.KindDir, names: 1}}, n - y.Data, y.Inodes - 1}
}

func (p *plain) clone() *plain {
	q := &plain{map[int]*thing{}, p.blocks, p.inodes}
	for i, x := range p.things {
		q.things[i] = &thing{x.kind, x.names, x.data, slices.Clone(x.slots)}
	}
	return q
}

func (p *plain) free() (int, int) {
	b := p.blocks
	for _, x := range p.things {
		b -= x.blocks()
	}
	return b, p.inodes - len(p.things)
}

func (p *plain) shown() string {
	var out strings.Builder
	p.show(&out, "/", 1)
	b, i := p.free()
	fmt.Fprintf(&out, "free %d %d\n", b, i)
	return out.String()
}

func (p *plain) show(out *strings.Builder, path string, i int) {
	x := p.things[i]
	fmt.Fprintf(out, "%s %d %d %d", path, x.kind, len(x.data), i)
	switch x.kind {
	case api.KindFile:
		fmt.Fprintf(out, " %x\n", x.data)
	case api.KindLink:
		fmt.Fprintf(out, " %s\n", x.data)
	default:
		out.WriteByte('\n')
		for _, d := range x.list() {
			p.show(out, strings.TrimSuffix(path, "/")+"/"+d.Name, d.Inode)
		}
	}
}

var pathForm = regexp.MustCompile(`^(/[A-Za-z0-9._+-]{1,36})+$`)

func namesOf(path string) ([]string, bool) {
	if path == "/" {
		return nil, true
	}
	if !pathForm.MatchString(path) || len(path) > 200 {
		return nil, false
	}
	names := strings.Split(path, "/")[1:]
	return names, len(names) <= 16 && !slices.Contains(names, ".") && !slices.Contains(names, "..")
}

// from goes on from an inode by these names, when so many links were gone after.
func (p *plain) from(at int, names []string, follow bool, links int) (int, api.Errno) {
	if len(names) == 0 {
		return at, api.OK
	}
	x := p.things[at]
	if x.kind != api.KindDir {
		return 0, api.ErrNotDir
	}
	k := x.find(names[0])
	if k < 0 {
		return 0, api.ErrNoEntry
	}
	i := x.slots[k].Inode
	if p.things[i].kind != api.KindLink || len(names) == 1 && !follow {
		return p.from(i, names[1:], follow, links)
	}
	if links == 8 {
		return 0, api.ErrLinks
	}
	led, _ := namesOf(p.things[i].data)
	return p.from(1, slices.Concat(led, names[1:]), follow, links+1)
}

func (p *plain) walk(path string, follow bool) (int, api.Errno) {
	names, ok := namesOf(path)
	if !ok {
		return 0, api.ErrPathName
	}
	return p.from(1, names, follow, 0)
}

// at tells a path's parent, its last name, and which inode is there: 0, if none.
func (p *plain) at(path string) (int, string, int, api.Errno) {
	names, ok := namesOf(path)
	if !ok || len(names) == 0 {
		return 0, "", 0, api.ErrPathName
	}
	last := names[len(names)-1]
	dir, e := p.from(1, names[:len(names)-1], true, 0)
	if e != api.OK {
		return 0, "", 0, e
	}
	if p.things[dir].kind != api.KindDir {
		return 0, "", 0, api.ErrNotDir
	}
	if k := p.things[dir].find(last); k >= 0 {
		return dir, last, p.things[dir].slots[k].Inode, api.OK
	}
	return dir, last, 0, api.OK
}

// grows tells how many blocks a name more takes.
func (p *plain) grows(dir int) int {
	x := p.things[dir]
	if slices.ContainsFunc(x.slots, func(d api.Dirent) bool { return d.Inode == 0 }) {
		return 0
	}
	return blocksOf(40*len(x.slots)+40) - blocksOf(40*len(x.slots))
}

// lacks tells whether there are fewer blocks or inodes than that.
func (p *plain) lacks(blocks, inodes int) bool {
	b, i := p.free()
	return blocks > b || inodes > i
}

func (p *plain) insert(dir int, name string, i int) {
	x := p.things[dir]
	p.things[i].names++
	k := slices.IndexFunc(x.slots, func(d api.Dirent) bool { return d.Inode == 0 })
	if k < 0 {
		x.slots = append(x.slots, api.Dirent{})
		k = len(x.slots) - 1
	}
	x.slots[k] = api.Dirent{Name: name, Inode: i}
}

func (p *plain) delete(dir int, name string) {
	x := p.things[dir]
	k := x.find(name)
	i := x.slots[k].Inode
	x.slots[k] = api.Dirent{}
	for n := len(x.slots); n > 0 && x.slots[n-1].Inode == 0; n-- {
		x.slots = x.slots[:n-1]
	}
	if p.things[i].names--; p.things[i].names == 0 {
		delete(p.things, i)
	}
}

func (p *plain) create(dir int, name string, x thing) api.Errno {
	if p.lacks(x.blocks()+p.grows(dir), 1) {
		return api.ErrNoSpace
	}
	i := 1
	for p.things[i] != nil {
		i++
	}
	p.things[i] = &x
	p.insert(dir, name, i)
	return api.OK
}

func (p *plain) mkdir(path string) api.Errno {
	dir, name, i, e := p.at(path)
	switch {
	case e != api.OK:
		return e
	case i != 0:
		return api.ErrExists
	}
	return p.create(dir, name, thing{kind: api.KindDir})
}

func (p *plain) symlink(target, path string) api.Errno {
	if _, ok := namesOf(target); !ok {
		return api.ErrPathName
	}
	dir, name, i, e := p.at(path)
	switch {
	case e != api.OK:
		return e
	case i != 0:
		return api.ErrExists
	}
	return p.create(dir, name, thing{kind: api.KindLink, data: target})
}

func (p *plain) write(path, b string) api.Errno {
	if len(b) > 16384 {
		return api.ErrBig
	}
	i, e := p.walk(path, true)
	if e == api.ErrNoEntry {
		dir, name, i, e := p.at(path)
		switch {
		case e != api.OK:
			return e
		case i != 0:
			return api.ErrNoEntry
		}
		return p.create(dir, name, thing{kind: api.KindFile, data: b})
	}
	switch {
	case e != api.OK:
		return e
	case p.things[i].kind == api.KindDir:
		return api.ErrIsDir
	case p.lacks(blocksOf(len(b))-p.things[i].blocks(), 0):
		return api.ErrNoSpace
	}
	p.things[i].data = b
	return api.OK
}

func (p *plain) link(from, to string) api.Errno {
	i, e := p.walk(from, false)
	if e != api.OK {
		return e
	}
	if p.things[i].kind == api.KindDir {
		return api.ErrIsDir
	}
	dir, name, there, e := p.at(to)
	switch {
	case e != api.OK:
		return e
	case there != 0:
		return api.ErrExists
	case p.lacks(p.grows(dir), 0):
		return api.ErrNoSpace
	}
	p.insert(dir, name, i)
	return api.OK
}

func (p *plain) remove(path string) api.Errno {
	dir, name, i, e := p.at(path)
	switch {
	case e != api.OK:
		return e
	case i == 0:
		return api.ErrNoEntry
	case len(p.things[i].list()) > 0:
		return api.ErrNotEmpty
	}
	p.delete(dir, name)
	return api.OK
}

// below tells whether dir is top, or below it.
func (p *plain) below(top, dir int) bool {
	return top == dir || slices.ContainsFunc(p.things[top].list(), func(d api.Dirent) bool { return p.below(d.Inode, dir) })
}

func (p *plain) rename(from, to string) api.Errno {
	dir, name, i, e := p.at(from)
	if e != api.OK {
		return e
	}
	if i == 0 {
		return api.ErrNoEntry
	}
	into, other, there, e := p.at(to)
	if e != api.OK {
		return e
	}
	x, y := p.things[i], p.things[there]
	switch {
	case i == there:
		return api.OK
	case x.kind == api.KindDir && p.below(i, into):
		return api.ErrWithin
	case y != nil && x.kind == api.KindDir && y.kind != api.KindDir:
		return api.ErrNotDir
	case y != nil && x.kind == api.KindDir && len(y.list()) > 0:
		return api.ErrNotEmpty
	case y != nil && x.kind != api.KindDir && y.kind == api.KindDir:
		return api.ErrIsDir
	case y == nil && p.lacks(p.grows(into), 0):
		return api.ErrNoSpace
	}
	if y != nil {
		p.delete(into, other)
	}
	p.insert(into, other, i)
	p.delete(dir, name)
	return api.OK
}

// call is one of a script: what it does to a file system, what it does to plain lists, and how many bytes it writes.
type call struct {
	what  string
	real  func(f *fs.FS) api.Errno
	model func(p *plain) api.Errno
	size  int
}

// pair is a file system and what it must be: behind the last transaction, and by now.
type pair struct {
	*place
	safe, now *plain
	open      bool
	touched   int // at most so many sectors are changed by the transaction that is open
	rng       *rand.Rand
	told      map[api.Errno]int
}

func newPair(t *testing.T, n int, seed uint64) *pair {
	return &pair{place: made(t, n), safe: newPlain(n), now: newPlain(n), rng: rand.New(rand.NewPCG(seed, uint64(n))), told: map[api.Errno]int{}}
}

// path gives one of few, so that they meet; now and then none.
func (q *pair) path() string {
	if q.rng.IntN(40) == 0 {
		return []string{"/", "", "a", "/a/", "/..", "/a//b", "/é"}[q.rng.IntN(7)]
	}
	s := ""
	for range 1 + q.rng.IntN(3) {
		s += "/" + []string{"a", "b", "c", "D", "e.f", strings.Repeat("g", 36)}[q.rng.IntN(6)]
	}
	return s
}

// there gives a path at which something is.
func (q *pair) there() string {
	s, i := "", 1
	for {
		l := q.now.things[i].list()
		if len(l) == 0 || s != "" && q.rng.IntN(3) == 0 {
			return s
		}
		d := l[q.rng.IntN(len(l))]
		s, i = s+"/"+d.Name, d.Inode
	}
}

func (q *pair) some() string {
	if q.rng.IntN(3) == 0 {
		return q.path()
	}
	return q.there()
}

func (q *pair) bytes() string {
	n := []int{0, 1, 40, 128, 129, 300, 700, 1024, 1025, 2000, 5000, 10000, 16384, 16385}[min(q.rng.IntN(14), q.rng.IntN(14))]
	return strings.Repeat(string(rune('a'+q.rng.IntN(26))), n)
}

func (q *pair) call() call {
	a, b, some, other := q.path(), q.bytes(), q.some(), q.some()
	switch k := q.rng.IntN(20); {
	case k < 4:
		return call{"Mkdir " + a, func(f *fs.FS) api.Errno { return f.Mkdir(a) }, func(p *plain) api.Errno { return p.mkdir(a) }, 0}
	case k < 8:
		return call{"Write " + a, func(f *fs.FS) api.Errno { return f.Write(a, []byte(b)) }, func(p *plain) api.Errno { return p.write(a, b) }, len(b)}
	case k < 10:
		return call{"Write " + some, func(f *fs.FS) api.Errno { return f.Write(some, []byte(b)) }, func(p *plain) api.Errno { return p.write(some, b) }, len(b)}
	case k < 12:
		return call{"Symlink " + a, func(f *fs.FS) api.Errno { return f.Symlink(some, a) }, func(p *plain) api.Errno { return p.symlink(some, a) }, len(a)}
	case k < 14:
		return call{"Link " + some + " " + a, func(f *fs.FS) api.Errno { return f.Link(some, a) }, func(p *plain) api.Errno { return p.link(some, a) }, 0}
	case k < 17:
		return call{"Remove " + some, func(f *fs.FS) api.Errno { return f.Remove(some) }, func(p *plain) api.Errno { return p.remove(some) }, 0}
	}
	if q.rng.IntN(2) == 0 {
		other = a
	}
	return call{"Rename " + some + " " + other, func(f *fs.FS) api.Errno { return f.Rename(some, other) }, func(p *plain) api.Errno { return p.rename(some, other) }, 0}
}

// lose makes all that is not committed be gone.
func (q *pair) lose() { q.now, q.open, q.touched = q.safe.clone(), false, 0 }

// keep makes all of it lasting.
func (q *pair) keep() { q.safe, q.open, q.touched = q.now.clone(), false, 0 }

// do does one call to both, and holds the answers against each other.
func (q *pair) do(c call) {
	q.t.Helper()
	got := c.real(q.FS)
	q.told[got]++
	behind := q.now.clone()
	want := c.model(behind)
	q.touched += blocksOf(c.size) + 12
	room := max(q.d.Len()/8, 16) - 1
	switch {
	case got == api.ErrLogFull && want == api.OK && q.touched+q.touched/60+1 > room:
		q.lose()
	case got != want:
		q.t.Fatalf("%s: %d, not %d", c.what, got, want)
	case got == api.ErrNoSpace:
		q.lose()
	case got == api.OK:
		q.now = behind
		if !q.open {
			q.keep()
		}
	}
	if !q.open {
		q.touched = 0
	}
}

// bracket begins or ends a transaction.
func (q *pair) bracket() {
	q.t.Helper()
	was := q.open
	var e api.Errno
	switch k := q.rng.IntN(6); {
	case k < 3 && !was || k == 0:
		if e = q.Begin(); e == api.OK {
			q.open = true
		}
		was = !was
	case k < 5:
		if e = q.Commit(); e == api.OK {
			q.keep()
		}
	default:
		if e = q.Abort(); e == api.OK {
			q.lose()
		}
	}
	want := api.OK
	if !was {
		want = api.ErrTx
	}
	mustBe(q.t, "Begin, Commit or Abort", e, want)
}

func (q *pair) step() {
	q.t.Helper()
	switch k := q.rng.IntN(60); {
	case k == 0:
		q.place = q.anew()
		q.lose()
	case k < 12:
		q.bracket()
	default:
		q.do(q.call())
	}
}

// hold asks for all that can be asked.
func (q *pair) hold() {
	q.t.Helper()
	q.mustShow(q.now.shown())
	q.check()
	for range 4 {
		path := q.path()
		i, e := q.now.walk(path, true)
		b, g := q.Read(path)
		switch {
		case e == api.OK && q.now.things[i].kind == api.KindDir:
			e = api.ErrIsDir
		case e == api.OK && string(b) != q.now.things[i].data:
			q.t.Fatalf("Read %s: %q", path, b)
		}
		mustBe(q.t, "Read "+path, g, e)
		i, e = q.now.walk(path, false)
		s, g := q.Stat(path)
		mustBe(q.t, "Stat "+path, g, e)
		if e == api.OK && s != (api.Stat{Kind: q.now.things[i].kind, Size: len(q.now.things[i].data), Inode: i}) {
			q.t.Fatalf("Stat %s: %v", path, s)
		}
	}
}

// F2 to F7 hold for scripts of calls on small disks, where room is short, and on greater ones.
func TestF8ScriptsAgainstPlainLists(t *testing.T) {
	told := map[api.Errno]int{}
	for _, n := range []int{64, 90, 200, 1024} {
		for seed := range uint64(20) {
			q := newPair(t, n, seed)
			for range 200 {
				q.step()
				q.hold()
			}
			for e, k := range q.told {
				told[e] += k
			}
		}
	}
	for _, e := range []api.Errno{api.OK, api.ErrPathName, api.ErrNoEntry, api.ErrExists, api.ErrNotDir, api.ErrIsDir, api.ErrNotEmpty, api.ErrLinks, api.ErrWithin, api.ErrBig, api.ErrNoSpace, api.ErrLogFull} {
		if told[e] < 10 {
			t.Fatal("the scripts come by too little of", e, told)
		}
	}
}

// F8: power fails in scripts, again and again, in Mount too: behind it there is what was ahead of the transaction, or what is behind it.
func TestF8WherePowerFails(t *testing.T) {
	ahead, behind, twice := 0, 0, 0
	for seed := range uint64(300) {
		q := newPair(t, []int{64, 100, 300}[seed%3], seed+1000)
		for range 120 {
			if q.rng.IntN(4) > 0 {
				q.step()
				continue
			}
			was := q.safe.shown()
			if !q.fail(&twice) {
				continue
			}
			if q.safe.shown() == was {
				ahead++
			} else {
				behind++
			}
			q.hold()
		}
	}
	if ahead < 50 || behind < 50 || twice < 50 {
		t.Fatal("power fails too much alike", ahead, behind, twice)
	}
}

// fail binds power to fail in the next call, or in the Commit, and mounts anew where it has failed.
func (q *pair) fail(twice *int) bool {
	q.t.Helper()
	q.d.Arm(q.rng.IntN(14), q.rng.Uint64()|q.rng.Uint64())
	behind := q.now.clone()
	var e api.Errno
	if q.open {
		e = q.Commit()
	} else {
		c := q.call()
		want := c.model(behind)
		e = c.real(q.FS)
		if e == api.OK || e == api.ErrPower {
			mustBe(q.t, c.what, want, api.OK)
		} else {
			behind = q.now.clone()
		}
	}
	q.now = behind
	if e != api.ErrPower {
		q.d.Arm(-1, 0)
		q.keep()
		return false
	}
	q.place = q.mountAtLast(twice)
	if q.shown() == q.now.shown() {
		q.keep()
	} else {
		q.lose()
	}
	return true
}

// mountAtLast starts a disk, in whose Mounts power fails a few times.
func (q *pair) mountAtLast(twice *int) *place {
	q.t.Helper()
	for range 3 {
		mustBe(q.t, "Start", q.d.Start(), api.OK)
		q.d.Arm(q.rng.IntN(12), q.rng.Uint64())
		f, e := fs.Mount(q.d)
		if e == api.OK {
			q.d.Arm(-1, 0)
			return &place{f, q.t, q.d}
		}
		mustBe(q.t, "Mount", e, api.ErrPower)
		*twice++
	}
	mustBe(q.t, "Start", q.d.Start(), api.OK)
	return mounted(q.t, q.d)
}

// F8: one transaction of many names and blocks, with a loss of power at each of its deeds and many ways in which loose writes stay, in the Mount behind it too.
func TestF8EachDeed(t *testing.T) {
	first := made(t, 200)
	first.mkdir("/a", "/b")
	first.write("/a/f", strings.Repeat("x", 700))
	first.symlink("/a", "/l")
	change := func(p *place) api.Errno {
		p.begin()
		p.write("/l/f", strings.Repeat("y", 1300))
		p.rename("/a", "/b/c")
		p.remove("/l")
		p.link("/b/c/f", "/g")
		p.mkdir("/a")
		p.symlink("/b", "/a/l")
		return p.Commit()
	}
	c := first.clone()
	mustBe(t, "Commit", change(c), api.OK)
	states := map[string]string{first.shown(): "ahead", c.shown(): "behind"}
	got := map[string]int{}
	whole := false
	for after := 0; !whole; after++ {
		for _, keep := range keeps() {
			p := first.clone()
			p.d.Arm(after, keep)
			e := change(p)
			whole = e == api.OK
			p.d.Crash(keep)
			is := mountedEach(t, p.d, keep, states)
			if e == api.OK && is != "behind" || e != api.OK && e != api.ErrPower {
				t.Fatal(after, keep, e, is)
			}
			got[is]++
		}
	}
	if got["ahead"] == 0 || got["behind"] == 0 {
		t.Fatal(got)
	}
}

// mountedEach lets power fail at each deed of a Mount, and tells which of the states is there behind the one that is completed.
func mountedEach(t *testing.T, d *disk.Disk, keep uint64, states map[string]string) string {
	t.Helper()
	for after := 0; ; after++ {
		c := d.Clone()
		mustBe(t, "Start", c.Start(), api.OK)
		c.Arm(after, keep)
		_, e := fs.Mount(c)
		done := e == api.OK
		if !done {
			mustBe(t, "Mount", e, api.ErrPower)
		}
		c.Crash(keep)
		mustBe(t, "Start", c.Start(), api.OK)
		p := mounted(t, c)
		p.check()
		is, ok := states[p.shown()]
		if !ok {
			t.Fatalf("neither ahead nor behind:\n%s", p.shown())
		}
		if done {
			return is
		}
	}
}
