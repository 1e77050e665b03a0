package dirs

import (
	"iter"
	"strings"

	"bootjack/api"
)

// mostNames is how many names a path may have.
const mostNames = 16

// Name tells whether s may be a name.
func Name(s string) bool {
	if len(s) == 0 || len(s) > api.MaxName || s == "." || s == ".." {
		return false
	}
	for k := range len(s) {
		if !mayName(s[k]) {
			return false
		}
	}
	return true
}

// mayName tells whether a name may have this byte.
func mayName(c byte) bool {
	switch {
	case 'a' <= c && c <= 'z', 'A' <= c && c <= 'Z', '0' <= c && c <= '9':
		return true
	}
	return c == '.' || c == '_' || c == '-' || c == '+'
}

// Path tells whether s may be a path, and its names.
func Path(s string) ([]string, bool) {
	rest, ok := strings.CutPrefix(s, "/")
	if !ok || len(s) > api.MaxPath {
		return nil, false
	}
	if rest == "" {
		return nil, true
	}
	var names []string
	for name := range pieces(rest) {
		if !Name(name) || len(names) == mostNames {
			return nil, false
		}
		names = append(names, name)
	}
	return names, true
}

// pieces tells what stands ahead of, between and behind the slashes of s, from its beginning on.
func pieces(s string) iter.Seq[string] {
	return func(yield func(string) bool) {
		piece, rest, more := strings.Cut(s, "/")
		for yield(piece) && more {
			piece, rest, more = strings.Cut(rest, "/")
		}
	}
}
