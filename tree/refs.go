package tree

import (
	"bytes"
	"slices"

	"bootjack/api"
	"bootjack/sum"
)

const (
	storeDir  = "/store/"
	digits    = 16 // of a store path's sum
	mostBytes = 19 // behind the `-`
)

// Refs gives all store paths that stand in the data of entries, rising, each once.
func Refs(l []api.Entry) []string {
	var out []string
	for _, x := range l {
		for at := range x.Data {
			if n := storePath(x.Data[at:]); n > 0 {
				out = append(out, string(x.Data[at:at+n]))
			}
		}
	}
	slices.Sort(out)
	return slices.Compact(out)
}

// storePath tells how many bytes of b are the store path with which it begins; 0, if it begins with none.
func storePath(b []byte) int {
	rest, ok := bytes.CutPrefix(b, []byte(storeDir))
	if !ok || len(rest) <= digits || rest[digits] != '-' {
		return 0
	}
	// The text of a sum is just such digits.
	if _, ok := sum.Parse(string(rest[:digits])); !ok {
		return 0
	}
	n := run(rest[digits+1:])
	if n == 0 {
		return 0
	}
	return len(storeDir) + digits + 1 + n
}

// run tells how many bytes at the beginning of b may stand behind a store path's `-`.
func run(b []byte) int {
	n := 0
	for n < len(b) && n < mostBytes && mayStand(b[n]) {
		n++
	}
	return n
}

func mayStand(c byte) bool {
	switch {
	case 'a' <= c && c <= 'z', 'A' <= c && c <= 'Z', '0' <= c && c <= '9':
		return true
	}
	return c == '.' || c == '_' || c == '-' || c == '+'
}
