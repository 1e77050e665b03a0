package activate

import (
	"slices"
	"strings"

	"bootjack/api"
	"bootjack/dirs"
	"bootjack/tree"
)

const (
	filesDir   = "etc/"   // ahead of the paths of a system's files
	systemPath = "system" // of the entry that tells all else
)

// Right tells whether a system may be (V1). That its files are a tree follows
// from that its entries are one, but is asked first, so that not more is laid
// down than there may be.
func Right(s api.System) bool {
	return tree.Right(s.Files) && areUsers(s.Users) && areUnits(s.Units) && tree.Right(laid(s))
}

func areUsers(l []string) bool {
	if len(l) > api.MaxUsers {
		return false
	}
	for i, user := range l {
		if !dirs.Name(user) || i > 0 && l[i-1] >= user {
			return false
		}
	}
	return true
}

func areUnits(l []api.Unit) bool {
	if len(l) > api.MaxUnits {
		return false
	}
	for i, u := range l {
		if !mayBe(u) || has(l[:i], u.Name) || !hasAll(l[:i], u.Requires) {
			return false
		}
	}
	return true
}

func has(l []api.Unit, name string) bool {
	return slices.ContainsFunc(l, func(u api.Unit) bool { return u.Name == name })
}

func hasAll(l []api.Unit, names []string) bool {
	return !slices.ContainsFunc(names, func(name string) bool { return !has(l, name) })
}

// Entries gives a system's entries; none, if it may not be (V1).
func Entries(s api.System) []api.Entry {
	if !Right(s) {
		return nil
	}
	return laid(s)
}

// laid gives what are a system's entries, if it may be.
func laid(s api.System) []api.Entry {
	l := make([]api.Entry, 0, len(s.Files)+1)
	for _, f := range s.Files {
		f.Path = filesDir + f.Path
		l = append(l, copiedFile(f))
	}
	return append(l, api.Entry{Path: systemPath, Kind: api.KindFile, Data: []byte(systemText(s))})
}

func systemText(s api.System) string {
	var w writer
	for _, user := range s.Users {
		w.line(userWord, user)
	}
	for _, u := range s.Units {
		w.unit(unitWord, u)
	}
	w.line(endWord)
	return w.String()
}

// System gives the system whose entries these are (V1).
func System(l []api.Entry) (api.System, api.Errno) {
	if !tree.Right(l) {
		return api.System{}, api.ErrTree
	}
	s := read(l)
	// A system has one list of entries alone: whatever reading let pass is seen when they are laid down again.
	if !slices.EqualFunc(Entries(s), l, sameFile) {
		return api.System{}, api.ErrTree
	}
	return s, api.OK
}

// read gives the only system whose entries these could be.
func read(l []api.Entry) api.System {
	var s api.System
	for _, x := range l {
		if path, ok := strings.CutPrefix(x.Path, filesDir); ok {
			x.Path = path
			s.Files = append(s.Files, copiedFile(x))
			continue
		}
		r := reader{string(x.Data)}
		s.Users = r.lines(userWord)
		s.Units = r.units()
	}
	return s
}
