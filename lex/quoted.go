package lex

import "bootjack/api"

// quoted reads a string. Faults are told in the order of their bytes: a string that grew too long within a run did so ahead of the byte that ends the run.
func (r *reader) quoted() (api.Token, error) {
	at := r.at
	r.pass(1)
	var b []byte
	for {
		b = append(b, r.run(plain)...)
		if len(b) > api.MaxString || r.ended() {
			return api.Token{}, fault(at, api.ErrString)
		}
		if r.peek(0) == quote {
			r.pass(1)
			return api.Token{Kind: api.TokString, Text: string(b), At: at}, nil
		}
		c, ok := r.escaped()
		if !ok {
			return api.Token{}, fault(r.at, api.ErrByte)
		}
		b = append(b, c)
	}
}

// escaped reads two bytes that stand for another one; if they do not, it stays where it is.
func (r *reader) escaped() (byte, bool) {
	if r.peek(0) != escape {
		return 0, false
	}
	c, ok := meant(r.peek(1))
	if ok {
		r.pass(2)
	}
	return c, ok
}

// meant gives the byte for which c stands behind a `\`.
func meant(c byte) (byte, bool) {
	switch c {
	case 'n':
		return feed, true
	case 't':
		return tab, true
	case quote, escape:
		return c, true
	}
	return 0, false
}
