package boot

import (
	"slices"
	"strconv"
	"strings"

	"bootjack/api"
	"bootjack/tree"
)

// maxLast is the greatest number that a generation may have.
const maxLast = 999999

// The words with which lines begin, but those of the numbers.
const (
	menuWord = "menu"
	genWord  = "gen"
	endWord  = "end"
)

// numberWords are the words of the lines of numbers, in their order.
var numberWords = [...]string{"last", "default", "next", "trial"}

// numbers are those of numberWords.
func numbers(m *api.Menu) [len(numberWords)]*int {
	return [...]*int{&m.Last, &m.Default, &m.Next, &m.Trial}
}

// choices are the numbers by which a menu says which of its generations are
// kept, and for what.
func choices(m *api.Menu) [3]*int {
	return [...]*int{&m.Default, &m.Next, &m.Trial}
}

// Right tells whether a menu may be (X1).
func Right(m api.Menu) bool {
	if m.Last < 0 || m.Last > maxLast || !areGenerations(m.Gens, m.Last) {
		return false
	}
	for _, n := range choices(&m) {
		if *n != 0 && !has(m, *n) {
			return false
		}
	}
	return true
}

func areGenerations(l []api.Generation, last int) bool {
	if len(l) > api.MaxGens {
		return false
	}
	below := 0
	for _, g := range l {
		if g.Number <= below || g.Number > last || !isStorePath(g.Path) {
			return false
		}
		below = g.Number
	}
	return true
}

// isStorePath asks for the store paths in the text: one that is the whole of
// it is the only one.
func isStorePath(path string) bool {
	return slices.Equal(tree.Refs([]api.Entry{{Data: []byte(path)}}), []string{path})
}

func has(m api.Menu, n int) bool {
	return slices.ContainsFunc(m.Gens, func(g api.Generation) bool { return g.Number == n })
}

// Text gives a menu's text; nothing, if it may not be (X1).
func Text(m api.Menu) string {
	if !Right(m) {
		return ""
	}
	var b strings.Builder
	line := func(words ...string) {
		b.WriteString(strings.Join(words, " "))
		b.WriteByte('\n')
	}
	line(menuWord)
	for i, n := range numbers(&m) {
		line(numberWords[i], strconv.Itoa(*n))
	}
	for _, g := range m.Gens {
		line(genWord, strconv.Itoa(g.Number), g.Path)
	}
	line(endWord)
	return b.String()
}

// Parse gives the menu whose text this is (X1).
func Parse(text string) (api.Menu, api.Errno) {
	m := read(text)
	// A menu has one text alone: whatever reading let pass is seen when it is written again.
	if Text(m) != text {
		return api.Menu{}, api.ErrMenu
	}
	return m, api.OK
}

// read gives the only menu whose text this could be; it lets pass what is no
// such line, and numbers that are none. Of no text it gives the zero menu,
// which has one.
func read(text string) api.Menu {
	var m api.Menu
	for line := range strings.SplitSeq(text, "\n") {
		word, rest, _ := strings.Cut(line, " ")
		for i, n := range numbers(&m) {
			if numberWords[i] == word {
				*n, _ = strconv.Atoi(rest)
			}
		}
		// Generations that are too many are left out, however many follow.
		if word == genWord && len(m.Gens) < api.MaxGens {
			number, path, _ := strings.Cut(rest, " ")
			n, _ := strconv.Atoi(number)
			m.Gens = append(m.Gens, api.Generation{Number: n, Path: path})
		}
	}
	return m
}
