package fs

import "bootjack/api"

const (
	mostNames = 1000 // of an inode (5)
	slotSize  = 40   // of a directory (6)
	direct    = 8    // parts of an inode that no index tells (5)
	indexLen  = 64   // numbers of an index (5)
)

// mustHave gives up, if fewer blocks or inodes are not in use than that. A change asks it for all that it needs, ahead of what it stages, so that a log that is full does not hide it.
func (f *FS) mustHave(blocks, inodes int) {
	b, e := f.space.Blocks()
	must(e)
	i, e := f.space.Inodes()
	must(e)
	if blocks > b || inodes > i {
		panic(api.ErrNoSpace)
	}
}

// growth tells by how many blocks a directory grows with a name more; ErrBig, if it can't have one.
func (f *FS) growth(dir int) (int, api.Errno) {
	what, e := f.table.Get(dir)
	if e != api.OK {
		return 0, e
	}
	list, e := f.dirs.List(dir)
	if e != api.OK {
		return 0, e
	}
	slots := what.Size / slotSize
	if len(list) < slots { // one is empty
		return 0, api.OK
	}
	size := (slots + 1) * slotSize
	if size > api.MaxFile {
		return 0, api.ErrBig
	}
	return blocks(size) - blocks(what.Size), api.OK
}

// blocks tells how many blocks so many bytes take, with the indexes that tell them.
func blocks(size int) int {
	parts := ceil(size, api.SectorSize)
	n := parts
	if parts > direct {
		n++
	}
	if far := parts - direct - indexLen; far > 0 {
		n += 1 + ceil(far, indexLen)
	}
	return n
}

// ceil tells how many pieces of a size n begins.
func ceil(n, size int) int { return (n + size - 1) / size }
