package units

import (
	"slices"
	"strings"

	"bootjack/api"
)

// Parse gives the units of which a text is the Text, or a *api.Fault (S3).
func Parse(text string) ([]api.Unit, error) {
	r := reader{text: text}
	var out []api.Unit
	for r.at < len(text) {
		u := r.unit(len(out) < api.MaxUnits)
		if r.fault != nil {
			return nil, r.fault
		}
		out = append(out, u)
	}
	return out, nil
}

// reader goes through a text line by line. Behind a fault it reads nothing any
// more, so that the first fault is the one that is told.
type reader struct {
	text  string
	at    int
	fault *api.Fault
}

func (r *reader) fail(at int, e api.Errno) {
	if r.fault == nil {
		r.fault = &api.Fault{At: at, Err: e}
	}
}

func (r *reader) unit(room bool) api.Unit {
	var u api.Unit
	at := r.at
	u.Name = r.line("unit ", isName)
	if !room {
		r.fail(at, api.ErrMany)
	}
	u.Start = r.line("start ", isStart)
	u.Requires = names(r.line("requires", areNames))
	u.After = names(r.line("after", areNames))
	return u
}

// line gives what stands behind its word on the next line, if that is as it is
// written.
func (r *reader) line(word string, right func(string) bool) string {
	if r.fault != nil {
		return ""
	}
	line, _, ended := strings.Cut(r.text[r.at:], "\n")
	if !ended {
		r.fail(len(r.text), api.ErrShort)
		return ""
	}
	rest, ok := strings.CutPrefix(line, word)
	if !ok || !right(rest) {
		r.fail(r.at, api.ErrWord)
		return ""
	}
	r.at += len(line) + 1
	return rest
}

// areNames tells whether a text is names, each behind a blank.
func areNames(s string) bool {
	return s == "" || s[0] == ' ' && !slices.ContainsFunc(names(s), notName)
}

// names leaves out the empty piece ahead of the first blank.
func names(s string) []string { return strings.Split(s, " ")[1:] }
