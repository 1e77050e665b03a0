package fs

import (
	"slices"

	"bootjack/api"
	"bootjack/dirs"
)

// spot is where a path's last name stands or would stand, and the inode that has it; 0, if nothing is there.
type spot struct {
	dir  int
	name string
	node int
}

// Read tells the bytes of the file at a path.
func (f *FS) Read(path string) ([]byte, api.Errno) {
	node, what, e := f.look(path, true)
	if e != api.OK {
		return nil, e
	}
	if what.Kind == api.KindDir {
		return nil, api.ErrIsDir
	}
	return f.table.Read(node, 0, api.MaxFile)
}

// Readlink tells where the link at a path leads.
func (f *FS) Readlink(path string) (string, api.Errno) {
	node, what, e := f.look(path, false)
	if e != api.OK {
		return "", e
	}
	if what.Kind != api.KindLink {
		return "", api.ErrNotLink
	}
	b, e := f.table.Read(node, 0, api.MaxFile)
	return string(b), e
}

// List tells the names in the directory at a path, rising.
func (f *FS) List(path string) ([]string, api.Errno) {
	node, _, e := f.look(path, true)
	if e != api.OK {
		return nil, e
	}
	list, e := f.dirs.List(node) // ErrNotDir among its errors
	if e != api.OK {
		return nil, e
	}
	names := make([]string, len(list))
	for k, x := range list {
		names[k] = x.Name
	}
	return names, api.OK
}

// Stat tells what is at a path. How long a directory's slots are is nobody's business.
func (f *FS) Stat(path string) (api.Stat, api.Errno) {
	node, what, e := f.look(path, false)
	if e != api.OK {
		return api.Stat{}, e
	}
	if what.Kind == api.KindDir {
		what.Size = 0
	}
	return api.Stat{Kind: what.Kind, Size: what.Size, Inode: node}, api.OK
}

// look is how a call that changes nothing begins.
func (f *FS) look(path string, follow bool) (int, api.Inode, api.Errno) {
	if e := f.power(); e != api.OK {
		return 0, api.Inode{}, e
	}
	return f.walk(path, follow)
}

// walk tells the inode at a path, and what it is.
func (f *FS) walk(path string, follow bool) (int, api.Inode, api.Errno) {
	node, e := f.dirs.Walk(path, follow)
	if e != api.OK {
		return 0, api.Inode{}, e
	}
	what, e := f.table.Get(node)
	return node, what, e
}

// at tells what is at a path, behind the parent's errors.
func (f *FS) at(path string) (spot, api.Errno) {
	dir, name, e := f.dirs.Parent(path)
	if e != api.OK {
		return spot{}, e
	}
	node, e := f.dirs.Lookup(dir, name)
	if e != api.OK && e != api.ErrNoEntry {
		return spot{}, e
	}
	return spot{dir, name, node}, api.OK
}

// taken tells what is at a path; ErrNoEntry, if nothing is.
func (f *FS) taken(path string) (spot, api.Inode, api.Errno) {
	at, e := f.at(path)
	if e != api.OK {
		return spot{}, api.Inode{}, e
	}
	if at.node == 0 {
		return spot{}, api.Inode{}, api.ErrNoEntry
	}
	what, e := f.table.Get(at.node)
	return at, what, e
}

// vacant tells where a name can be put, and by how many blocks its directory grows then; exists is the answer, if something is at the path.
func (f *FS) vacant(path string, exists api.Errno) (spot, int, api.Errno) {
	at, e := f.at(path)
	if e != api.OK {
		return spot{}, 0, e
	}
	if at.node != 0 {
		return spot{}, 0, exists
	}
	grows, e := f.growth(at.dir)
	return at, grows, e
}

// checkEmpty answers ErrNotEmpty, if node is a directory with names.
func (f *FS) checkEmpty(node int, what api.Inode) api.Errno {
	if what.Kind != api.KindDir {
		return api.OK
	}
	list, e := f.dirs.List(node)
	if e != api.OK {
		return e
	}
	if len(list) > 0 {
		return api.ErrNotEmpty
	}
	return api.OK
}

// directories tells the directory top and all below it, each once, whatever names lead to.
func (f *FS) directories(top int) ([]int, api.Errno) {
	all := []int{top}
	for k := 0; k < len(all); k++ {
		list, e := f.dirs.List(all[k])
		if e != api.OK {
			return nil, e
		}
		for _, x := range list {
			what, e := f.table.Get(x.Inode)
			if e != api.OK {
				return nil, e
			}
			if what.Kind == api.KindDir && !slices.Contains(all, x.Inode) {
				all = append(all, x.Inode)
			}
		}
	}
	return all, api.OK
}

func isPath(s string) bool {
	_, ok := dirs.Path(s)
	return ok
}
