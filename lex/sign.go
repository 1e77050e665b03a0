package lex

import (
	"strings"

	"bootjack/api"
)

const oneByteSigns = "{}[]()=;.:?!<>+-*/"

func (r *reader) sign() (api.Token, error) {
	at := r.at
	n := r.signLength()
	if n == 0 {
		return api.Token{}, fault(at, api.ErrByte)
	}
	return api.Token{Kind: api.TokSign, Text: r.pass(n), At: at}, nil
}

// signLength gives how many bytes the sign has that is next; 0, if none is.
func (r *reader) signLength() int {
	left := r.text[r.at:]
	if len(left) >= 2 && twoByteSign(left[:2]) {
		return 2
	}
	if strings.IndexByte(oneByteSigns, left[0]) >= 0 {
		return 1
	}
	return 0
}

func twoByteSign(s string) bool {
	switch s {
	case "++", "//", "==", "!=", "<=", ">=", "&&", "||":
		return true
	}
	return false
}
