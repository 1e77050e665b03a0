package activate

import (
	"strings"

	"bootjack/api"
)

// The words with which lines begin.
const (
	userWord     = "user"
	unitWord     = "unit"
	runWord      = "run"
	requiresWord = "requires"
	afterWord    = "after"
	stopWord     = "stop"
	removeWord   = "remove"
	dropWord     = "drop"
	fileWord     = "file"
	startWord    = "start"
	endWord      = "end"
)

// writer gathers a text line by line.
type writer struct {
	strings.Builder
}

func (w *writer) line(words ...string) {
	w.WriteString(strings.Join(words, " "))
	w.WriteByte('\n')
}

// unit writes a unit's lines, of which the first begins with this word.
func (w *writer) unit(word string, u api.Unit) {
	w.line(word, u.Name)
	w.line(runWord, u.Start)
	for _, name := range u.Requires {
		w.line(requiresWord, name)
	}
	for _, name := range u.After {
		w.line(afterWord, name)
	}
}

// reader goes through such a text. It looks for lines by their words, and lets
// pass what stands in them: what is read is written again, and held against
// the text.
type reader struct {
	left string
}

// line goes past the next line, if it begins with this word and a blank, and
// gives what stands behind these.
func (r *reader) line(word string) (string, bool) {
	rest, ok := strings.CutPrefix(r.left, word+" ")
	if !ok {
		return "", false
	}
	words, left, ended := strings.Cut(rest, "\n")
	if !ended {
		return "", false
	}
	r.left = left
	return words, true
}

// lines goes past all of the next lines that begin so.
func (r *reader) lines(word string) []string {
	var l []string
	for words, ok := r.line(word); ok; words, ok = r.line(word) {
		l = append(l, words)
	}
	return l
}

// unit goes past a unit's lines, if the first begins with this word. A unit
// without a line of what it runs has an empty Start, and may not be.
func (r *reader) unit(word string) (api.Unit, bool) {
	name, ok := r.line(word)
	if !ok {
		return api.Unit{}, false
	}
	start, _ := r.line(runWord)
	return api.Unit{Name: name, Start: start, Requires: r.lines(requiresWord), After: r.lines(afterWord)}, true
}

func (r *reader) units() []api.Unit {
	var l []api.Unit
	for u, ok := r.unit(unitWord); ok; u, ok = r.unit(unitWord) {
		l = append(l, u)
	}
	return l
}
