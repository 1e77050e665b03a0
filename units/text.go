package units

import (
	"slices"
	"strings"

	"bootjack/api"
)

const longestName = 16

// Text is four lines a unit; the empty text, if what there is can't be
// written so (S3).
func Text(l []api.Unit) string {
	if len(l) > api.MaxUnits || slices.ContainsFunc(l, unwritable) {
		return ""
	}
	var b strings.Builder
	for _, u := range l {
		b.WriteString("unit " + u.Name + "\nstart " + u.Start + "\n")
		write(&b, "requires", u.Requires)
		write(&b, "after", u.After)
	}
	return b.String()
}

func write(b *strings.Builder, word string, names []string) {
	b.WriteString(word)
	for _, name := range names {
		b.WriteString(" " + name)
	}
	b.WriteByte('\n')
}

func unwritable(u api.Unit) bool {
	return !isName(u.Name) || !isStart(u.Start) || slices.ContainsFunc(u.Requires, notName) || slices.ContainsFunc(u.After, notName)
}

func isName(s string) bool {
	if len(s) == 0 || len(s) > longestName || !isLetter(s[0]) {
		return false
	}
	for i := range len(s) {
		if c := s[i]; !isLetter(c) && c != '-' && (c < '0' || c > '9') {
			return false
		}
	}
	return true
}

func notName(s string) bool { return !isName(s) }

func isLetter(c byte) bool { return c >= 'a' && c <= 'z' }

// isStart asks byte by byte: a Start need not be right UTF-8.
func isStart(s string) bool {
	for i := range len(s) {
		if s[i] < 32 || s[i] == 127 {
			return false
		}
	}
	return true
}
