package fs

import (
	"slices"

	"bootjack/api"
)

// change does what do says as a transaction of its own, or within the one that is open. What do refuses it answers, ahead of all that it stages; what can't go on behind that gives up by a panic (must), and the transaction is over.
func (f *FS) change(do func() api.Errno) (e api.Errno) {
	if e := f.power(); e != api.OK {
		return e
	}
	defer func() {
		if r := recover(); r != nil {
			f.end()
			e = r.(api.Errno)
		}
	}()
	e = do()
	if e == api.OK && !f.open {
		must(f.log.Commit())
	}
	return e
}

// must gives up, unless all is well.
func must(e api.Errno) {
	if e != api.OK {
		panic(e)
	}
}

// Mkdir makes an empty directory.
func (f *FS) Mkdir(path string) api.Errno {
	return f.change(func() api.Errno {
		return f.create(path, api.ErrExists, api.KindDir, nil)
	})
}

// Write makes the bytes of the file at a path b; where nothing is, it makes the file.
func (f *FS) Write(path string, b []byte) api.Errno {
	return f.change(func() api.Errno {
		if len(b) > api.MaxFile {
			return api.ErrBig
		}
		node, e := f.dirs.Walk(path, true)
		if e == api.ErrNoEntry {
			return f.create(path, api.ErrNoEntry, api.KindFile, b)
		}
		if e != api.OK {
			return e
		}
		return f.rewrite(node, b)
	})
}

// Symlink makes a link that leads to target.
func (f *FS) Symlink(target, path string) api.Errno {
	return f.change(func() api.Errno {
		if !isPath(target) {
			return api.ErrPathName
		}
		return f.create(path, api.ErrExists, api.KindLink, []byte(target))
	})
}

// Link gives what is at from another name.
func (f *FS) Link(from, to string) api.Errno {
	return f.change(func() api.Errno {
		node, what, e := f.walk(from, false)
		if e != api.OK {
			return e
		}
		if what.Kind == api.KindDir {
			return api.ErrIsDir
		}
		at, grows, e := f.vacant(to, api.ErrExists)
		if e != api.OK {
			return e
		}
		if what.Links >= mostNames {
			return api.ErrFull
		}
		f.mustHave(grows, 0)
		must(f.dirs.Insert(at.dir, at.name, node))
		return api.OK
	})
}

// Remove takes what is at a path away.
func (f *FS) Remove(path string) api.Errno {
	return f.change(func() api.Errno {
		at, what, e := f.taken(path)
		if e != api.OK {
			return e
		}
		if e := f.checkEmpty(at.node, what); e != api.OK {
			return e
		}
		must(f.dirs.Delete(at.dir, at.name))
		return api.OK
	})
}

// Rename puts what is at from in place of what is at to.
func (f *FS) Rename(from, to string) api.Errno {
	return f.change(func() api.Errno {
		source, what, e := f.taken(from)
		if e != api.OK {
			return e
		}
		goal, e := f.at(to)
		if e != api.OK {
			return e
		}
		if source.node == goal.node {
			return api.OK
		}
		grows, e := f.mayMove(source, what, goal)
		if e != api.OK {
			return e
		}
		f.mustHave(grows, 0)
		f.move(source, goal)
		return api.OK
	})
}

// create makes something of that kind, with these bytes, at a path at which nothing is; exists is the answer, if something is.
func (f *FS) create(path string, exists api.Errno, kind int, b []byte) api.Errno {
	at, grows, e := f.vacant(path, exists)
	if e != api.OK {
		return e
	}
	f.mustHave(blocks(len(b))+grows, 1)
	node, e := f.table.New(kind)
	must(e)
	must(f.table.Write(node, 0, b))
	must(f.dirs.Insert(at.dir, at.name, node))
	return api.OK
}

// rewrite makes the bytes of the file node b. It cuts first, so that what is cut off can be given again.
func (f *FS) rewrite(node int, b []byte) api.Errno {
	what, e := f.table.Get(node)
	if e != api.OK {
		return e
	}
	if what.Kind == api.KindDir {
		return api.ErrIsDir
	}
	if len(b) < what.Size {
		must(f.table.Truncate(node, len(b)))
	}
	must(f.table.Write(node, 0, b))
	return api.OK
}

// mayMove tells why what is at source can't be put at goal; else by how many blocks goal's directory grows.
func (f *FS) mayMove(source spot, what api.Inode, goal spot) (int, api.Errno) {
	if e := f.checkOutside(source.node, what, goal.dir); e != api.OK {
		return 0, e
	}
	grows, e := f.mayTake(what, goal)
	if e != api.OK {
		return 0, e
	}
	// For a while it has both names.
	if what.Links >= mostNames {
		return 0, api.ErrFull
	}
	return grows, api.OK
}

// checkOutside answers ErrWithin, if node is a directory, and dir is that, or below it.
func (f *FS) checkOutside(node int, what api.Inode, dir int) api.Errno {
	if what.Kind != api.KindDir {
		return api.OK
	}
	within, e := f.directories(node)
	if e != api.OK {
		return e
	}
	if slices.Contains(within, dir) {
		return api.ErrWithin
	}
	return api.OK
}

// mayTake tells why goal can't take a thing like what, in place of what is there; else by how many blocks its directory grows. In place of another name it needs no slot.
func (f *FS) mayTake(what api.Inode, goal spot) (int, api.Errno) {
	if goal.node == 0 {
		return f.growth(goal.dir)
	}
	there, e := f.table.Get(goal.node)
	if e != api.OK {
		return 0, e
	}
	switch {
	case what.Kind == api.KindDir && there.Kind != api.KindDir:
		return 0, api.ErrNotDir
	case what.Kind != api.KindDir && there.Kind == api.KindDir:
		return 0, api.ErrIsDir
	}
	return 0, f.checkEmpty(goal.node, there)
}

// move puts in the new name ahead of taking out the old one, for with its last name an inode is freed.
func (f *FS) move(source, goal spot) {
	if goal.node != 0 {
		must(f.dirs.Delete(goal.dir, goal.name))
	}
	must(f.dirs.Insert(goal.dir, goal.name, source.node))
	must(f.dirs.Delete(source.dir, source.name))
}
