package store

import (
	"cmp"
	"slices"

	"bootjack/api"
	"bootjack/fs"
)

// each hands paths, or names, on to do, one by one, up to the first error.
func each(all []string, do func(one string) api.Errno) api.Errno {
	for _, one := range all {
		if e := do(one); e != api.OK {
			return e
		}
	}
	return api.OK
}

// walk hands all paths below a directory on to do, with what is there: a directory behind what is in it, so that do may take away what it is handed.
func walk(f *fs.FS, dir string, do func(path string, kind int) api.Errno) api.Errno {
	names, e := f.List(dir)
	if e != api.OK {
		return e
	}
	return each(names, func(name string) api.Errno {
		path := dir + "/" + name
		what, e := f.Stat(path)
		if e == api.OK && what.Kind == api.KindDir {
			e = walk(f, path, do)
		}
		if e != api.OK {
			return e
		}
		return do(path, what.Kind)
	})
}

// read tells the tree whose entries are in a directory. They are sorted behind the walk: `a-b` stands ahead of `a/c`, though the name `a` stands ahead of `a-b`.
func read(f *fs.FS, dir string) ([]api.Entry, api.Errno) {
	var l []api.Entry
	e := walk(f, dir, func(path string, kind int) api.Errno {
		if kind == api.KindDir {
			return api.OK
		}
		b, e := data(f, path, kind)
		l = append(l, api.Entry{Path: path[len(dir)+1:], Kind: kind, Data: b})
		return e
	})
	if e != api.OK {
		return nil, e
	}
	slices.SortFunc(l, func(a, b api.Entry) int { return cmp.Compare(a.Path, b.Path) })
	return l, api.OK
}

// data tells a file's bytes, or where a link leads.
func data(f *fs.FS, path string, kind int) ([]byte, api.Errno) {
	if kind == api.KindLink {
		to, e := f.Readlink(path)
		return []byte(to), e
	}
	return f.Read(path)
}
