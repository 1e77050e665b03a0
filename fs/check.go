package fs

import "bootjack/api"

// Check tells whether all links, inodes and blocks are what names make of them. Behind the question for power an error of the layers below says that they aren't.
func (f *FS) Check() api.Errno {
	if e := f.power(); e != api.OK {
		return e
	}
	if !f.linksHold() || !f.blocksHold() {
		return api.ErrDamaged
	}
	return api.OK
}

// linksHold tells whether each inode that is in use has as many links as names lead to it, and at least one.
func (f *FS) linksHold() bool {
	names, e := f.countNames()
	if e != api.OK {
		return false
	}
	names[root] = 1 // its link stands for no name
	for i := 1; i < f.space.Layout().Inodes; i++ {
		what, e := f.table.Get(i)
		if e == api.ErrInode {
			continue
		}
		if e != api.OK || what.Links == 0 || what.Links != names[i] {
			return false
		}
	}
	return true
}

// countNames tells how many names lead to each inode, from the root and the directories below it.
func (f *FS) countNames() (map[int]int, api.Errno) {
	all, e := f.directories(root)
	if e != api.OK {
		return nil, e
	}
	names := map[int]int{}
	for _, dir := range all {
		list, e := f.dirs.List(dir)
		if e != api.OK {
			return nil, e
		}
		for _, x := range list {
			names[x.Inode]++
		}
	}
	return names, api.OK
}

// blocksHold tells whether just those blocks are in use that belong to an inode, each to one.
func (f *FS) blocksHold() bool {
	owners, e := f.countOwners()
	if e != api.OK {
		return false
	}
	for b, n := range owners {
		used, e := f.space.Has(b)
		if e != api.OK || !used || n > 1 {
			return false
		}
	}
	y := f.space.Layout()
	free, e := f.space.Blocks()
	return e == api.OK && y.Sectors-y.Data-free == len(owners)
}

// countOwners tells how often each block belongs to an inode.
func (f *FS) countOwners() (map[int]int, api.Errno) {
	owners := map[int]int{}
	for i := 1; i < f.space.Layout().Inodes; i++ {
		list, e := f.table.Blocks(i)
		if e == api.ErrInode {
			continue
		}
		if e != api.OK {
			return nil, e
		}
		for _, b := range list {
			owners[b]++
		}
	}
	return owners, api.OK
}
