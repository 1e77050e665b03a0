package render

import (
	"strings"

	"bootjack/api"
	"bootjack/value"
)

// Manifest tells all that a configuration's meaning says, line by line (Y2).
// Only values are quoted: paths and names are written as they are.
func Manifest(c api.Config) string {
	var b strings.Builder
	for _, s := range c.Settings {
		writeLine(&b, s.Path, "=", value.Show(s.Value))
	}
	for _, f := range c.Files {
		writeLine(&b, "file", f.Name)
	}
	for _, user := range c.Users {
		writeLine(&b, "user", user)
	}
	for _, u := range c.Units {
		writeLine(&b, "unit", u.Name)
	}
	return b.String()
}

// writeLine keeps the blanks also about words that are empty.
func writeLine(b *strings.Builder, words ...string) {
	for i, word := range words {
		if i > 0 {
			b.WriteByte(' ')
		}
		b.WriteString(word)
	}
	b.WriteByte('\n')
}
