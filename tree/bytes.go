package tree

import (
	"bytes"
	"strconv"
	"strings"

	"bootjack/api"
)

const (
	firstLine = "tree"
	lastLine  = "end"
	feed      = "\n"
	blank     = " "
	fileSign  = "f"
	linkSign  = "l"
)

// builder gathers a tree's bytes.
type builder struct {
	out []byte
}

// line lays down words with a blank between, and a line feed.
func (b *builder) line(words ...string) {
	b.out = append(b.out, strings.Join(words, blank)...)
	b.out = append(b.out, feed...)
}

// data lays down bytes as they are, and a line feed.
func (b *builder) data(d []byte) {
	b.out = append(b.out, d...)
	b.out = append(b.out, feed...)
}

// Bytes gives the bytes of the tree l; nothing, if it is none.
func Bytes(l []api.Entry) []byte {
	if !Right(l) {
		return nil
	}
	var b builder
	lay(l, b.line, b.data)
	return b.out
}

// lay tells the lines and the data of a tree, in their order.
func lay(l []api.Entry, line func(...string), data func([]byte)) {
	line(firstLine)
	for _, x := range l {
		line(signOf(x.Kind), x.Path, strconv.Itoa(len(x.Data)))
		data(x.Data)
	}
	line(lastLine)
}

func signOf(kind int) string {
	if kind == api.KindLink {
		return linkSign
	}
	return fileSign
}

// kindOf gives no kind at all for what is no sign.
func kindOf(sign string) int {
	switch sign {
	case fileSign:
		return api.KindFile
	case linkSign:
		return api.KindLink
	}
	return 0
}

// Parse gives the tree whose bytes are b.
func Parse(b []byte) ([]api.Entry, api.Errno) {
	l, ok := entries(b)
	// Entries have one row of bytes alone: what reading let pass, a nought ahead of a number or more behind the end, is seen when they are laid down again.
	if !ok || !bytes.Equal(Bytes(l), b) {
		return nil, api.ErrTree
	}
	return l, api.OK
}

// entries reads what may be a tree's bytes, up to its last line, or as many entries as a tree may have.
func entries(b []byte) ([]api.Entry, bool) {
	r := reader{left: b}
	if !r.pass(firstLine + feed) {
		return nil, false
	}
	var l []api.Entry
	for len(l) < api.MaxEntries && !r.pass(lastLine+feed) {
		x, ok := r.entry()
		if !ok {
			return nil, false
		}
		l = append(l, x)
	}
	return l, true
}

// reader goes through a tree's bytes.
type reader struct {
	left []byte
}

// pass goes past s, if it stands next.
func (r *reader) pass(s string) bool {
	rest, ok := bytes.CutPrefix(r.left, []byte(s))
	r.left = rest
	return ok
}

// until gives what stands ahead of the next end, and goes past both.
func (r *reader) until(end string) (string, bool) {
	piece, rest, ok := bytes.Cut(r.left, []byte(end))
	r.left = rest
	return string(piece), ok
}

// entry gives the entry that stands next.
func (r *reader) entry() (api.Entry, bool) {
	sign, signed := r.until(blank)
	path, named := r.until(blank)
	count, counted := r.until(feed)
	n, e := strconv.Atoi(count)
	if !signed || !named || !counted || e != nil || n < 0 || n > api.MaxData || n > len(r.left) {
		return api.Entry{}, false
	}
	// The bytes are the answer's own, and b stays with whoever handed it in.
	data := bytes.Clone(r.left[:n])
	r.left = r.left[n:]
	return api.Entry{Path: path, Kind: kindOf(sign), Data: data}, r.pass(feed)
}
