package store

import (
	"slices"

	"bootjack/api"
	"bootjack/fs"
	"bootjack/tree"
)

// Refs tells which other paths in the store stand in the tree at a path, rising.
func Refs(f *fs.FS, path string) ([]string, api.Errno) {
	all, e := List(f)
	if e != api.OK {
		return nil, e
	}
	if !has(all, path) {
		return nil, api.ErrStore
	}
	return refs(f, all, path)
}

// Reach tells what is reached from some paths, rising.
func Reach(f *fs.FS, roots []string) ([]string, api.Errno) {
	_, reached, e := survey(f, roots)
	return reached, e
}

// Collect sweeps all that is not reached from some paths, and tells it, rising.
func Collect(f *fs.FS, roots []string) ([]string, api.Errno) {
	all, reached, e := survey(f, roots)
	if e != api.OK {
		return nil, e
	}
	if e := Clean(f); e != api.OK {
		return nil, e
	}
	swept := slices.DeleteFunc(all, func(path string) bool { return has(reached, path) })
	e = each(swept, func(path string) api.Errno {
		if e := moveOut(f, path); e != api.OK {
			return e
		}
		return Clean(f)
	})
	if e != api.OK {
		return nil, e
	}
	return swept, api.OK
}

// survey tells all paths in the store, and those that are reached from the roots, both rising.
func survey(f *fs.FS, roots []string) (all, reached []string, e api.Errno) {
	all, e = List(f)
	if e != api.OK {
		return nil, nil, e
	}
	if slices.ContainsFunc(roots, func(path string) bool { return !has(all, path) }) {
		return nil, nil, api.ErrStore
	}
	var visit func(path string) api.Errno
	visit = func(path string) api.Errno {
		if slices.Contains(reached, path) {
			return api.OK
		}
		reached = append(reached, path)
		further, e := refs(f, all, path)
		if e != api.OK {
			return e
		}
		return each(further, visit)
	}
	if e := each(roots, visit); e != api.OK {
		return nil, nil, e
	}
	slices.Sort(reached)
	return all, reached, api.OK
}

// refs tells the Refs of a path in a store in which all paths are these.
func refs(f *fs.FS, all []string, path string) ([]string, api.Errno) {
	l, e := read(f, path)
	if e != api.OK {
		return nil, e
	}
	return slices.DeleteFunc(tree.Refs(l), func(to string) bool { return to == path || !has(all, to) }), api.OK
}
