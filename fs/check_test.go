package fs_test

import (
	"fmt"
	"math/rand/v2"
	"strings"
	"testing"

	"bootjack/api"
	"bootjack/disk"
	"bootjack/fs"
)

// forest gives a file system with some of all, and none of it in the log. The inodes: /a 2, /a/b 3, /f 4 (also /a/g), /l 5, /long 6 (with an index).
func forest(t *testing.T) *place {
	t.Helper()
	p := made(t, 200)
	p.mkdir("/a", "/a/b")
	p.write("/f", "x")
	p.link("/f", "/a/g")
	p.symlink("/a", "/l")
	p.write("/long", strings.Repeat("y", 9*128))
	p.check()
	return p.clone()
}

// setNumber puts a number of two bytes into the inode i, from the byte at on.
func (r raw) setNumber(i, at, n int) {
	sector := r.s.Layout().Table + i/4
	b, _ := r.l.Read(sector)
	at += i % 4 * 32
	b[at], b[at+1] = byte(n), byte(n>>8)
	r.l.Stage(sector, b)
}

// F7: each kind of damage.
func TestF7Damage(t *testing.T) {
	whole := forest(t)
	block := func(r raw, i, k int) int { b, _ := r.x.Blocks(i); return b[k] }
	for what, do := range map[string]func(r raw){
		"a block that belongs to nothing":        func(r raw) { r.s.Block() },
		"an inode without links and names":       func(r raw) { r.x.New(api.KindFile) },
		"an inode with a link and no name":       func(r raw) { i, _ := r.x.New(api.KindFile); r.x.Link(i) },
		"a directory that nothing leads to":      func(r raw) { i, _ := r.x.New(api.KindDir); r.x.Link(i) },
		"a file with a link more":                func(r raw) { r.x.Link(4) },
		"a file with a link less":                func(r raw) { r.x.Unlink(4) },
		"a link with a link more":                func(r raw) { r.x.Link(5) },
		"a directory with a link more":           func(r raw) { r.x.Link(3) },
		"a root with two links":                  func(r raw) { r.x.Link(1) },
		"a root without links":                   func(r raw) { r.setNumber(1, 2, 0) },
		"a root with a name":                     func(r raw) { r.d.Insert(3, "root", 1) },
		"a name more by hand":                    func(r raw) { r.d.Insert(3, "x", 4); r.x.Unlink(4) },
		"a name less by hand":                    func(r raw) { r.x.Link(4); r.d.Delete(2, "g") },
		"a directory whose last name is gone":    func(r raw) { r.x.Link(2); r.d.Delete(1, "a") },
		"a directory with a name in itself only": func(r raw) { r.d.Insert(3, "me", 3); r.d.Delete(2, "b") },
		"two directories, each the other's name": func(r raw) { r.d.Insert(3, "up", 2); r.d.Delete(1, "a") },
		"a block of two files":                   func(r raw) { r.setNumber(6, 8, block(r, 4, 0)) },
		"a block of two files, and none lost":    func(r raw) { r.s.Free(block(r, 6, 0)); r.setNumber(6, 8, block(r, 4, 0)) },
		"a block twice in one file":              func(r raw) { r.s.Free(block(r, 6, 1)); r.setNumber(6, 10, block(r, 6, 0)) },
		"a block of a file and of a directory":   func(r raw) { r.s.Free(block(r, 4, 0)); r.setNumber(4, 8, block(r, 1, 0)) },
		"an index that is a file's block": func(r raw) {
			n := block(r, 6, 8)
			r.s.Free(n)
			r.setNumber(6, 24, block(r, 4, 0))
		},
		"a file that has lost its block":   func(r raw) { r.setNumber(4, 8, 0) },
		"a file whose block is not in use": func(r raw) { r.s.Free(block(r, 4, 0)) },
		"a file with a block of the log":   func(r raw) { r.s.Free(block(r, 4, 0)); r.setNumber(4, 8, 3) },
		"a file with no disk's block":      func(r raw) { r.s.Free(block(r, 4, 0)); r.setNumber(4, 8, 60000) },
		"a block of the log in place":      func(r raw) { r.setNumber(4, 8, 3) },
		"an index in the log":              func(r raw) { r.setNumber(6, 24, 3) },
		"a name of an inode not in use":    func(r raw) { r.s.FreeInode(5) },
		"a name of no inode": func(r raw) {
			b, _ := r.x.Read(1, 0, 40)
			b[0], b[1] = 0xff, 0xff
			r.x.Write(1, 0, b)
		},
	} {
		p := whole.clone()
		r := rawOf(t, p.d)
		do(r)
		mustBe(t, what, r.l.Commit(), api.OK)
		p = mounted(t, p.d)
		mustBe(t, what, p.Check(), api.ErrDamaged)
		ahead := sectors(p.d)
		mustBe(t, what, p.Check(), api.ErrDamaged)
		if sectors(p.d) != ahead {
			t.Fatal(what, "is changed by Check")
		}
	}
	whole.check()
	p := whole.clone()
	r := rawOf(t, p.d)
	r.d.Insert(3, "x", 4)
	r.d.Insert(1, "y", 5)
	r.x.Write(4, 20*128, []byte("far")) // a hole is no damage
	r.l.Commit()
	mounted(t, p.d).check()
}

// sectors gives all bytes of a disk.
func sectors(d *disk.Disk) string {
	var out strings.Builder
	for i := range d.Len() {
		b, _ := d.Read(i)
		out.Write(b)
	}
	return out.String()
}

// F7: within a transaction, too.
func TestF7Within(t *testing.T) {
	p := forest(t)
	p.begin()
	p.remove("/long", "/a/g")
	p.check()
	p.rename("/a", "/c")
	p.check()
	p.write("/c/new", strings.Repeat("z", 1500))
	p.check()
	p.abort()
	p.check()
}

// R1: on disks whose bytes nobody made every call ends, and none panics.
func TestR1HandMadeDisks(t *testing.T) {
	whole := forest(t)
	y := rawOf(t, whole.d).s.Layout()
	rng := rand.New(rand.NewPCG(7, 7))
	for range 6000 {
		d := whole.d.Clone()
		for range 1 + rng.IntN(6) {
			i := y.Map + rng.IntN(y.Data-y.Map+12)
			b, _ := d.Read(i)
			for range 1 + rng.IntN(4) {
				b[rng.IntN(len(b))] = byte(rng.IntN(256) >> rng.IntN(8))
			}
			d.Write(i, b)
		}
		if f, e := fs.Mount(d); e == api.OK {
			shake(f, rng)
		}
	}
}

// shake does some of all calls.
func shake(f *fs.FS, rng *rand.Rand) {
	all := []string{"/", "/a", "/a/b", "/a/b/x", "/a/g", "/f", "/l", "/l/g", "/long", "/new", "/a/new", "", "\x00", "//"}
	any := func() string { return all[rng.IntN(len(all))] }
	for range 12 {
		switch rng.IntN(14) {
		case 0:
			f.Begin()
		case 1:
			f.Commit()
		case 2:
			f.Abort()
		case 3:
			f.Mkdir(any())
		case 4, 5:
			f.Write(any(), make([]byte, rng.IntN(16500)>>rng.IntN(15)))
		case 6:
			f.Symlink(any(), any())
		case 7:
			f.Link(any(), any())
		case 8:
			f.Remove(any())
		case 9, 10:
			f.Rename(any(), any())
		default:
			f.Read(any())
			f.Readlink(any())
			f.List(any())
			f.Stat(any())
			f.Free()
			f.Check()
		}
	}
}

// R2: what can't go on midway, for the bytes are nobody's, has done nothing, and the transaction is over.
func TestR2NothingOfAHalf(t *testing.T) {
	p := forest(t)
	r := rawOf(t, p.d)
	b, _ := r.x.Blocks(6)
	r.s.Free(b[3])
	r.l.Commit()
	p = mounted(t, p.d)
	ahead := p.shown()
	mustBe(t, "Remove", p.Remove("/long"), api.ErrBlock)
	p.mustShow(ahead)
	p.begin()
	p.mkdir("/new")
	mustBe(t, "Remove", p.Remove("/long"), api.ErrBlock)
	mustBe(t, "Commit", p.Commit(), api.ErrTx)
	p.mustShow(ahead)
	p.clone().mustShow(ahead)
}

// All bytes may stand in a path.
func TestR1AnyPath(t *testing.T) {
	p := made(t, 64)
	p.mkdir("/a")
	for c := range 256 {
		s := "/a" + string([]byte{byte(c)})
		want := api.OK
		switch {
		case c == '/' || !strings.ContainsRune("abcdefghijklmnopqrstuvwxyzABCDEFGHIJKLMNOPQRSTUVWXYZ0123456789._-+", rune(c)):
			want = api.ErrPathName
		}
		mustBe(t, fmt.Sprintf("Mkdir %q", s), p.Mkdir(s), want)
		if want == api.OK {
			p.remove(s)
		}
		f := p.Link(s, s)
		if want == api.ErrPathName && f != want {
			t.Fatalf("Link %q: %d", s, f)
		}
	}
	p.mustList("/", "a", api.OK)
}
