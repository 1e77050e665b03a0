package fs_test

import (
	"fmt"
	"strings"
	"testing"

	"bootjack/api"
)

// fullDir puts names of the file /f into a directory, till it has so many.
func (p *place) fullDir(dir string, n int) {
	p.t.Helper()
	for k := range n {
		if k%40 == 0 {
			p.begin()
		}
		p.link("/f", fmt.Sprint(dir, "/n", k))
		if k%40 == 39 || k == n-1 {
			p.commit()
		}
	}
}

// F3 to F5: a directory that can't have one more name, behind all other errors of a call.
func TestErrBigOfFullDirectories(t *testing.T) {
	p := made(t, 1024)
	p.write("/f", "x")
	p.write("/g", "y")
	p.mkdir("/d", "/a")
	p.fullDir("/d", 409)
	p.check()
	p.begin()
	p.write("/h", "z")
	within := p.shown()
	big := func(what string, e, want api.Errno) {
		t.Helper()
		mustBe(t, what, e, want)
		p.mustShow(within)
	}
	big("Mkdir", p.Mkdir("/d/x"), api.ErrBig)
	big("Write", p.Write("/d/x", nil), api.ErrBig)
	big("Symlink", p.Symlink("/", "/d/x"), api.ErrBig)
	big("Link", p.Link("/g", "/d/x"), api.ErrBig)
	big("Rename", p.Rename("/g", "/d/x"), api.ErrBig)
	big("Rename within", p.Rename("/d/n3", "/d/x"), api.ErrBig)
	big("Rename of a directory", p.Rename("/a", "/d/x"), api.ErrBig)
	big("Mkdir", p.Mkdir("/d/n3"), api.ErrExists)
	big("Symlink", p.Symlink("x", "/d/x"), api.ErrPathName)
	big("Link", p.Link("/a", "/d/x"), api.ErrIsDir)
	big("Rename", p.Rename("/d", "/d/x"), api.ErrWithin)
	big("Rename", p.Rename("/no", "/d/x"), api.ErrNoEntry)
	big("Rename", p.Rename("/a", "/d/n3"), api.ErrNotDir)
	big("Rename", p.Rename("/f", "/d/n3"), api.OK) // the same inode
	p.rename("/g", "/d/n3")                        // in place of another name
	p.write("/d/n3", "yy")
	p.commit()
	p = p.anew()
	p.mustRead("/d/n3", "yy", api.OK)
	p.mustRead("/h", "z", api.OK)
	p.remove("/d/n100")
	p.mkdir("/d/x") // in the slot that is empty
	mustBe(t, "Mkdir", p.Mkdir("/d/y"), api.ErrBig)
	p.rename("/d/n5", "/m")
	p.rename("/m", "/d/y")
	p.check()
}

// F4, F5: a file with 1000 names can't have another one, not even for a while.
func TestErrFullOfNames(t *testing.T) {
	p := made(t, 1024)
	p.write("/f", "x")
	p.write("/g", "y")
	p.mkdir("/a", "/b", "/c", "/c/d")
	p.fullDir("/a", 409)
	p.fullDir("/b", 409)
	p.fullDir("/c", 180)
	p.link("/f", "/last")
	p.check()
	p.begin()
	p.write("/h", "z")
	within := p.shown()
	full := func(what string, e, want api.Errno) {
		t.Helper()
		mustBe(t, what, e, want)
		p.mustShow(within)
	}
	full("Link", p.Link("/f", "/more"), api.ErrFull)
	full("Link", p.Link("/f", "/a/more"), api.ErrBig)
	full("Link", p.Link("/f", "/g"), api.ErrExists)
	full("Rename", p.Rename("/f", "/more"), api.ErrFull)
	full("Rename", p.Rename("/f", "/g"), api.ErrFull)
	full("Rename", p.Rename("/f", "/c"), api.ErrIsDir)
	full("Rename", p.Rename("/f", "/a/more"), api.ErrBig)
	full("Rename", p.Rename("/f", "/last"), api.OK)
	p.rename("/g", "/last") // one name less
	p.rename("/f", "/more")
	p.link("/more", "/f")
	mustBe(t, "Link", p.Link("/f", "/again"), api.ErrFull)
	p.commit()
	p = p.anew()
	p.mustRead("/b/n408", "x", api.OK)
	p.mustRead("/last", "y", api.OK)
	p.check()
}

// ErrNoSpace comes just if blocks or inodes are lacking, and ahead of a log that is full.
func TestErrNoSpaceOrLogFull(t *testing.T) {
	p := made(t, 64)
	size := func(n int) []byte { return make([]byte, n*128) }
	// Of 41 blocks the root takes one: there are 40 for parts and their index.
	for n, want := range map[int]api.Errno{8: api.OK, 39: api.ErrLogFull, 40: api.ErrNoSpace, 128: api.ErrNoSpace} {
		mustBe(t, fmt.Sprint("Write of ", n), p.clone().Write("/f", size(n)), want)
	}
	p.write("/f", "x")
	for n, want := range map[int]api.Errno{13: api.ErrLogFull, 39: api.ErrLogFull, 40: api.ErrNoSpace} {
		mustBe(t, fmt.Sprint("Write over, of ", n), p.clone().Write("/f", size(n)), want)
	}
	for k := range 13 {
		p.mkdir(fmt.Sprint("/d", k))
	}
	free, nodes, _ := p.Free()
	if free == 0 || nodes != 0 {
		t.Fatal("Free", free, nodes)
	}
	p.begin()
	mustBe(t, "Mkdir", p.Mkdir("/x"), api.ErrNoSpace)
	mustBe(t, "Commit", p.Commit(), api.ErrTx)
	mustBe(t, "Write", p.Write("/x", size(20)), api.ErrNoSpace)
	mustBe(t, "Symlink", p.Symlink("/", "/x"), api.ErrNoSpace)
	mustBe(t, "Mkdir", p.Mkdir("/d1"), api.ErrExists)
	p.link("/f", "/x")
	p.rename("/x", "/y")
	p.rename("/d1", "/d0")
	p.mkdir("/d1") // what was in place of it is free
	p.check()
}

// A disk whose last block is given: what needs none goes on.
func TestNoBlockLeft(t *testing.T) {
	p := made(t, 64)
	p.mkdir("/a")
	p.write("/a/f", "x") // the directory's block, and the file's
	p.write("/g", "y")
	free, _, _ := p.Free()
	for k := 0; free > 6; k++ {
		p.write(fmt.Sprint("/a/f", k), strings.Repeat("x", 600))
		free, _, _ = p.Free()
	}
	parts := 1 + free
	p.write("/g", strings.Repeat("y", parts*128))
	if free, nodes, _ := p.Free(); free != 0 || nodes == 0 {
		t.Fatal("Free", free, nodes)
	}
	p.check()
	full := p.shown()
	mustBe(t, "Write over", p.Write("/g", []byte(strings.Repeat("y", parts*128+1))), api.ErrNoSpace)
	mustBe(t, "Symlink", p.Symlink("/", "/l"), api.ErrNoSpace)
	mustBe(t, "Write", p.Write("/l", []byte("1")), api.ErrNoSpace)
	p.mustShow(full)
	c := p.clone()
	c.write("/e", "") // a slot is there, and an inode
	c.write("/g", strings.Repeat("z", parts*128))
	c.write("/a/f", "")
	c.write("/g", strings.Repeat("z", parts*128+1))
	c.check()
	c = p.clone()
	c.link("/g", "/third")
	c.remove("/g")
	c.link("/third", "/second") // in the slot that is empty
	c.remove("/second")
	c.mkdir("/second")
	c.check()
	c = p.clone()
	c.link("/g", "/third") // the third slot ends within the root's first block
	mustBe(t, "Link", c.Link("/g", "/fourth"), api.ErrNoSpace)
	mustBe(t, "Mkdir", c.Mkdir("/fourth"), api.ErrNoSpace)
	mustBe(t, "Rename", c.Rename("/a/f", "/fourth"), api.ErrNoSpace)
	mustBe(t, "Rename within", c.Rename("/g", "/fourth"), api.ErrNoSpace)
	c.rename("/a/f", "/g")
	c.remove("/third")
	c.rename("/g", "/fourth")
	c.check()
	c = c.anew()
	c.mustList("/", "a fourth", api.OK)
	c.mustRead("/fourth", "x", api.OK)
}

// ErrLogFull comes just if a transaction changes more sectors than the log has room for: 14 of 64 sectors' disk.
func TestErrLogFullExactly(t *testing.T) {
	p := made(t, 64)
	p.mkdir("/a")
	p.write("/f", strings.Repeat("x", 8*128))
	p.write("/g", strings.Repeat("x", 8*128))
	p.write("/h", "x")
	p.begin()
	p.write("/f", strings.Repeat("y", 8*128)) // its parts alone
	p.write("/g", strings.Repeat("y", 4*128)) // four parts, the block map, and its inode
	mustBe(t, "Write", p.Write("/h", []byte("z")), api.ErrLogFull)
	mustBe(t, "Commit", p.Commit(), api.ErrTx)
	p.mustRead("/f", strings.Repeat("x", 8*128), api.OK)
	p.begin()
	p.write("/f", strings.Repeat("y", 8*128))
	p.write("/g", strings.Repeat("y", 3*128))
	p.write("/h", "z")
	p.commit()
	p = p.anew()
	p.mustRead("/f", strings.Repeat("y", 8*128), api.OK)
	p.mustRead("/g", strings.Repeat("y", 3*128), api.OK)
	p.mustRead("/h", "z", api.OK)
	p.check()
}

// ErrNoSpace comes just if blocks are lacking, whatever the log has room for: at all numbers of parts, where an index or the double index begins among them.
func TestErrNoSpaceExactly(t *testing.T) {
	for _, n := range []int{64, 200, 1024} {
		for _, left := range []int{0, 1, 2, 7, 8, 9, 10, 11, 12, 71, 72, 73, 74, 75, 76, 77, 78, 129, 130, 131, 132, 133} {
			if n == 64 && left > 20 {
				continue
			}
			p := made(t, n)
			p.mkdir("/d")
			p.write("/over", strings.Repeat("x", 7*128))
			p.leave(left)
			for parts := range 129 {
				need := blocksOf(parts * 128)
				p.mustLack("/new", parts, need > left)
				p.mustLack("/over", parts, need-7 > left)
				p.mustLack("/d/new", parts, need+1 > left) // the directory's first block
			}
		}
	}
}

// mustLack asks whether ErrNoSpace comes of a Write of so many parts.
func (p *place) mustLack(path string, parts int, want bool) {
	p.t.Helper()
	p.begin()
	e := p.Write(path, make([]byte, parts*128))
	if (e == api.ErrNoSpace) != want || e != api.OK && e != api.ErrNoSpace && e != api.ErrLogFull {
		p.t.Fatalf("%d sectors, %s of %d parts: %d, %v", p.d.Len(), path, parts, e, want)
	}
	p.Abort()
}

// leave fills a disk with files without an index, till just so many blocks are left. The root has an empty slot then.
func (p *place) leave(left int) {
	p.t.Helper()
	_, nodes, _ := p.Free()
	many := min(nodes-1, 110)
	for k := range many {
		p.write(fmt.Sprint("/b", k), "")
	}
	p.remove("/b7")
	for k := range many {
		free, _, _ := p.Free()
		if k != 7 {
			p.write(fmt.Sprint("/b", k), strings.Repeat("x", min(free-left, 8)*128))
		}
	}
	if free, _, _ := p.Free(); free != left {
		p.t.Fatal("blocks left", free)
	}
}
