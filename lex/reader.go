package lex

// reader goes through a text; at is where what was not read yet begins.
type reader struct {
	text string
	at   int
}

func (r *reader) ended() bool {
	return r.at == len(r.text)
}

// peek gives the byte that stands n bytes on. Behind the end that is a nought, which is a part of no token, so that whoever looks for a byte does not find it there.
func (r *reader) peek(n int) byte {
	if r.at+n >= len(r.text) {
		return 0
	}
	return r.text[r.at+n]
}

// run goes past as many bytes as follow of those that it is made of, and gives them.
func (r *reader) run(madeOf func(byte) bool) string {
	from := r.at
	for !r.ended() && madeOf(r.text[r.at]) {
		r.at++
	}
	return r.text[from:r.at]
}

// pass goes past n bytes, and gives them.
func (r *reader) pass(n int) string {
	from := r.at
	r.at += n
	return r.text[from:r.at]
}
