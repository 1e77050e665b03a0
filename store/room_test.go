package store_test

import (
	"fmt"
	"strings"
	"testing"

	"bootjack/api"
	"bootjack/store"
)

// fill takes all but some blocks and inodes by files beside the store.
func (p *place) fill(blocks, inodes int) {
	p.t.Helper()
	mustBe(p.t, "Mkdir", p.Mkdir("/fill"), api.OK)
	_, i, _ := p.Free()
	for k := range i - inodes {
		mustBe(p.t, "Write", p.Write(fmt.Sprint("/fill/", k), nil), api.OK)
	}
	for k := range i - inodes {
		b, _, _ := p.Free()
		mustBe(p.t, "Write", p.Write(fmt.Sprint("/fill/", k), make([]byte, 128*min(b-blocks, 8))), api.OK)
	}
	if b, i, _ := p.Free(); b != blocks || i != inodes {
		p.t.Fatal("free are", b, i)
	}
}

// C2, C4: on a disk without a block that is free all can be swept.
func TestC4CollectWhereAllIsFull(t *testing.T) {
	for _, n := range []int{64, 100, 200, 500, 1024} {
		p := made(t, n)
		var all []string
		for k := 0; ; k++ {
			l := []api.Entry{file("a/b", strings.Repeat("x", 128)), file("c", fmt.Sprint(k))}
			path, e := store.Add(p.FS, "full", l)
			if e != api.OK {
				mustBe(t, "Add", e, api.ErrNoSpace)
				break
			}
			all = append(all, path)
		}
		for k := 0; ; k++ { // what is left is taken, too
			if e := p.Write(fmt.Sprint("/", k), nil); e != api.OK {
				break
			}
		}
		p.mustHold()
		p.mustList(all...)
		p.mustRefuse("more", nil, api.ErrNoSpace)
		p.mustSweep(all[1:], all[0])
		p.mustSweep(all[len(all)-1:], all[1:len(all)-1]...)
		p.mustSweep(nil, all[len(all)-1])
	}
}

// C4: without a block, and without an inode, that is free.
func TestC4NeverLacksRoom(t *testing.T) {
	for _, l := range [][]api.Entry{nil, of(""), of("1"), forest(), {link("l", "/")}, {file("a/b/c/d", "")}} {
		p := made(t, 200)
		path := p.add("x", l)
		p.fill(0, 0)
		p.add("x", l)
		ahead := p.shown()
		p.mustRefuse("y", l, api.ErrNoSpace)
		p.mustShow(ahead)
		p.mustGet(path, l)
		p.mustSweep(nil, path)
		p.mustList()
		p.add("y", l)
		p.mustHold()
	}
}

// C4: Clean makes /tmp empty on the smallest disk, whatever files stand there.
func TestC4CleanNeverLacksRoom(t *testing.T) {
	for _, n := range []int{64, 128, 200, 1024} {
		p := made(t, n)
		ahead := p.shown()
		dir := "/tmp"
		for k := 0; ; k++ {
			var e api.Errno
			switch path := fmt.Sprintf("%s/%02d", dir, k); k % 5 {
			case 0:
				if e = p.Mkdir(path); len(dir) < 30 {
					dir = path
				}
			case 1:
				e = p.Symlink("/store", path)
			default:
				e = p.Write(path, make([]byte, 128*(k%5)*2-1))
			}
			if e == api.ErrNoSpace {
				break
			}
			mustBe(t, "made", e, api.OK)
		}
		mustBe(t, "Clean", store.Clean(p.FS), api.OK)
		p.mustShow(ahead)
		p.mustHold()
	}
}

// C4: a file of many names, and a directory that is as long as one may be, are taken away as well.
func TestC4CleanOfManyNames(t *testing.T) {
	p := made(t, 400)
	ahead := p.shown()
	mustBe(t, "Write", p.Write("/tmp/x", make([]byte, 2000)), api.OK)
	for k := range 408 {
		mustBe(t, "Link", p.Link("/tmp/x", fmt.Sprintf("/tmp/%03d", k)), api.OK)
	}
	mustBe(t, "Clean", store.Clean(p.FS), api.OK)
	p.mustShow(ahead)
}

// C2: an Add needs what the tree takes, a slot for its name, and an inode for it, and no more.
func TestC2AddNeedsNoMore(t *testing.T) {
	for _, l := range [][]api.Entry{nil, of(""), of("1"), forest(), {file("a/b/c/d", ""), file("a/b/c/e", strings.Repeat("x", 1025))}} {
		blocks, inodes := needs(l)
		blocks++ // the first slot of the store
		for _, less := range [][2]int{{0, 0}, {1, 0}, {0, 1}, {1, 1}} {
			p := made(t, 400)
			p.fill(blocks-less[0], inodes-less[1])
			if less != [2]int{} {
				p.mustRefuse("x", l, api.ErrNoSpace)
				p.mustHold()
				p.mustList()
				continue
			}
			path := p.add("x", l)
			p.mustGet(path, l)
			p.mustHold()
			if b, i, _ := p.Free(); b != 0 || i != 0 {
				t.Error("free are", b, i)
			}
		}
	}
}

// C2: a file that the log has no room for leaves nothing of the tree.
func TestC2AddWhereTheLogIsFull(t *testing.T) {
	p := made(t, 64)
	a := p.add("a", of("1"))
	l := []api.Entry{file("a/b", "x"), file("c", strings.Repeat("y", 2000)), file("d", "z")}
	p.mustRefuse("x", l, api.ErrLogFull)
	p.mustHold()
	p.mustList(a)
	l[1].Data = l[1].Data[:500]
	p.mustGet(p.add("x", l), l)
}

// C2: where there is no room, and power fails in what is undone, it is power that is told.
func TestC2UndoneWherePowerFails(t *testing.T) {
	first := made(t, 64)
	a := first.add("a", of("1"))
	ahead := first.shown()
	l := []api.Entry{file("a/b", "x"), file("c", strings.Repeat("y", 2000))}
	told := map[api.Errno]int{}
	for after := range 200 {
		p := first.clone()
		p.d.Arm(after, 0)
		path, e := store.Add(p.FS, "x", l)
		told[e]++
		if path != "" {
			t.Fatal(path, e)
		}
		if e == api.ErrLogFull {
			if !p.d.Up() {
				t.Fatal("power has failed, and nobody tells it")
			}
			p.d.Arm(-1, 0)
			p.mustShow(ahead)
			continue
		}
		mustBe(t, "Add", e, api.ErrPower)
		p = p.anew()
		p.mustList(a)
		mustBe(t, "Clean", store.Clean(p.FS), api.OK)
		p.mustShow(ahead)
	}
	if told[api.ErrPower] < 40 || told[api.ErrLogFull] < 40 {
		t.Error(told)
	}
}
