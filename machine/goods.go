package machine

import (
	"bytes"
	"slices"
	"strings"

	"bootjack/api"
	"bootjack/dirs"
	"bootjack/tree"
)

// goods are what a machine has: its files, by rising paths, and its users,
// rising. Files need not be a tree together: there may be a file at a, and
// one at a/b.
type goods struct {
	files []api.Entry
	users []string
}

// place tells where the file at a path stands, or would stand, and whether
// there is one.
func (g *goods) place(path string) (int, bool) {
	return slices.BinarySearchFunc(g.files, path, func(f api.Entry, path string) int { return strings.Compare(f.Path, path) })
}

func (g *goods) remove(path string) api.Errno {
	if k, ok := g.place(path); ok {
		g.files = slices.Delete(g.files, k, k+1)
	}
	return api.OK
}

func (g *goods) put(path string, f api.Entry) api.Errno {
	k, ok := g.place(path)
	if !tree.Right([]api.Entry{f}) || path != f.Path || !ok && len(g.files) == api.MaxEntries {
		return api.ErrStep
	}
	if !ok {
		g.files = slices.Insert(g.files, k, api.Entry{})
	}
	g.files[k] = copiedFile(f)
	return api.OK
}

func (g *goods) drop(user string) api.Errno {
	if k, ok := slices.BinarySearch(g.users, user); ok {
		g.users = slices.Delete(g.users, k, k+1)
	}
	return api.OK
}

func (g *goods) admit(user string) api.Errno {
	k, ok := slices.BinarySearch(g.users, user)
	if !dirs.Name(user) || !ok && len(g.users) == api.MaxUsers {
		return api.ErrStep
	}
	if !ok {
		g.users = slices.Insert(g.users, k, user)
	}
	return api.OK
}

// filesNow shares no data with the files that are kept.
func (g *goods) filesNow() []api.Entry {
	l := make([]api.Entry, 0, len(g.files))
	for _, f := range g.files {
		l = append(l, copiedFile(f))
	}
	return l
}

func (g *goods) usersNow() []string { return slices.Clone(g.users) }

func copiedFile(f api.Entry) api.Entry {
	f.Data = bytes.Clone(f.Data)
	return f
}
