package activate

import (
	"strconv"
	"strings"

	"bootjack/api"
	"bootjack/dirs"
	"bootjack/tree"
)

// nameLines are the acts of which a script tells the name alone.
var nameLines = [...]struct {
	kind int
	word string
}{
	{api.StepStop, stopWord},
	{api.StepRemove, removeWord},
	{api.StepDrop, dropWord},
	{api.StepUser, userWord},
}

// signs are the kinds of files in a script.
var signs = [...]struct {
	kind int
	sign string
}{
	{api.KindFile, "f"},
	{api.KindLink, "l"},
}

// Text gives the script of these acts; nothing, if there is none (V3).
func Text(l []api.Act) string {
	if len(l) > api.MaxSteps {
		return ""
	}
	var w writer
	for _, a := range l {
		if !mayDo(a) {
			return ""
		}
		w.act(a)
	}
	w.line(endWord)
	return w.String()
}

// mayDo tells whether an act may be: what its kind asks for is there, and
// nothing else is.
func mayDo(a api.Act) bool {
	noFile := sameFile(a.File, api.Entry{})
	noUnit := sameUnit(a.Unit, api.Unit{})
	switch a.Kind {
	case api.StepStop, api.StepDrop, api.StepUser:
		return noFile && noUnit && dirs.Name(a.Name)
	case api.StepRemove:
		return noFile && noUnit && tree.Right([]api.Entry{{Path: a.Name, Kind: api.KindFile}})
	case api.StepFile:
		return noUnit && a.Name == a.File.Path && tree.Right([]api.Entry{a.File})
	case api.StepStart:
		return noFile && a.Name == a.Unit.Name && mayBe(a.Unit)
	}
	return false
}

func (w *writer) act(a api.Act) {
	switch a.Kind {
	case api.StepFile:
		w.file(a.File)
	case api.StepStart:
		w.unit(startWord, a.Unit)
	}
	for _, x := range nameLines {
		if x.kind == a.Kind {
			w.line(x.word, a.Name)
		}
	}
}

// file writes no line feed behind the data: how many there are says where they
// end.
func (w *writer) file(f api.Entry) {
	for _, x := range signs {
		if x.kind == f.Kind {
			w.line(fileWord, x.sign, f.Path, strconv.Itoa(len(f.Data)))
		}
	}
	w.Write(f.Data)
}

// Parse gives the acts whose script the text is (V3).
func Parse(text string) ([]api.Act, api.Errno) {
	l := actsIn(text)
	// Acts have one script alone: whatever reading let pass is seen when they are written again.
	if Text(l) != text {
		return nil, api.ErrStep
	}
	return l, api.OK
}

// actsIn gives the only acts whose script the text could be.
func actsIn(text string) []api.Act {
	var l []api.Act
	r := reader{text}
	for len(l) < api.MaxSteps {
		a, ok := r.act()
		if !ok {
			break
		}
		l = append(l, a)
	}
	return l
}

// act goes past the lines of the next act, if there are such lines.
func (r *reader) act() (api.Act, bool) {
	for _, x := range nameLines {
		if name, ok := r.line(x.word); ok {
			return api.Act{Kind: x.kind, Name: name}, true
		}
	}
	if f, ok := r.file(); ok {
		return api.Act{Kind: api.StepFile, Name: f.Path, File: f}, true
	}
	u, ok := r.unit(startWord)
	return api.Act{Kind: api.StepStart, Name: u.Name, Unit: u}, ok
}

// file goes past a file's line and its data.
func (r *reader) file() (api.Entry, bool) {
	line, _ := r.line(fileWord)
	sign, rest, _ := strings.Cut(line, " ")
	path, count, _ := strings.Cut(rest, " ")
	n, e := strconv.Atoi(count)
	if e != nil || n < 0 || n > len(r.left) {
		return api.Entry{}, false
	}
	f := api.Entry{Path: path, Data: []byte(r.left[:n])}
	for _, x := range signs {
		if x.sign == sign {
			f.Kind = x.kind
		}
	}
	r.left = r.left[n:]
	return f, true
}
