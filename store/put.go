package store

import (
	"bootjack/api"
	"bootjack/fs"
)

// put lays a tree down in the directory for what is under way, and then makes that directory the tree's own: so no more room is needed than the tree takes in the end. What can't be done leaves nothing behind.
func put(f *fs.FS, path string, l []api.Entry) api.Errno {
	if e := Clean(f); e != api.OK {
		return e
	}
	e := build(f, l)
	if e == api.OK {
		e = moveIn(f, path)
	}
	if e == api.OK {
		return api.OK
	}
	// Power that fails now has the last word, for nothing goes on behind that.
	if c := Clean(f); c == api.ErrPower {
		return c
	}
	return e
}

// build lays down entry by entry, each by transactions of its own: a tree may be greater than the log.
func build(f *fs.FS, l []api.Entry) api.Errno {
	for _, x := range l {
		if e := lay(f, x); e != api.OK {
			return e
		}
	}
	return api.OK
}

// lay lays an entry down, and the directories on its way.
func lay(f *fs.FS, x api.Entry) api.Errno {
	path := work + "/" + x.Path
	for k := len(work) + 1; k < len(path); k++ {
		if path[k] != '/' {
			continue
		}
		if e := needDir(f, path[:k]); e != api.OK {
			return e
		}
	}
	if x.Kind == api.KindLink {
		return f.Symlink(string(x.Data), path)
	}
	return f.Write(path, x.Data)
}

// moveIn is the one change by which a tree is in the store.
func moveIn(f *fs.FS, path string) api.Errno {
	return whole(f, func() api.Errno {
		if e := f.Rename(work, path); e != api.OK {
			return e
		}
		return f.Mkdir(work)
	})
}

// moveOut is the one change by which a tree is not in the store any more. The tree's directory takes the place of the one for what is under way, which is empty: that needs no room, not even on a disk that is full.
func moveOut(f *fs.FS, path string) api.Errno { return f.Rename(path, work) }

// needDir makes a directory, if it is not there.
func needDir(f *fs.FS, path string) api.Errno {
	if what, e := f.Stat(path); e == api.OK && what.Kind == api.KindDir {
		return api.OK
	}
	return f.Mkdir(path)
}

// whole does what do says as one transaction, or nothing of it.
func whole(f *fs.FS, do func() api.Errno) api.Errno {
	if e := f.Begin(); e != api.OK {
		return e
	}
	if e := do(); e != api.OK {
		f.Abort() // it is over already, where there was no room, and nothing is left to drop then
		return e
	}
	return f.Commit()
}
