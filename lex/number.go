package lex

import (
	"strconv"

	"bootjack/api"
)

// number reads a whole number, or a float, if a point and a digit stand behind the whole part: a point alone may be the one ahead of an attribute.
func (r *reader) number() (api.Token, error) {
	at := r.at
	whole := r.run(digit)
	if len(whole) > 1 && whole[0] == '0' {
		return api.Token{}, fault(at, api.ErrNumber)
	}
	if r.peek(0) == point && digit(r.peek(1)) {
		r.fraction()
		return float(r.text[at:r.at], at)
	}
	return integer(whole, at)
}

// fraction goes past a float's point and all that stands behind it.
func (r *reader) fraction() {
	r.pass(1)
	r.run(digit)
	if n := r.exponent(); n > 0 {
		r.pass(n)
		r.run(digit)
	}
}

// exponent gives how many bytes stand ahead of an exponent's digits; 0, if there is none: then `e` begins a name.
func (r *reader) exponent() int {
	if c := r.peek(0); c != 'e' && c != 'E' {
		return 0
	}
	n := 1
	if c := r.peek(1); c == '+' || c == '-' {
		n = 2
	}
	if !digit(r.peek(n)) {
		return 0
	}
	return n
}

func integer(text string, at int) (api.Token, error) {
	n, err := strconv.ParseInt(text, 10, 64)
	if err != nil {
		return api.Token{}, fault(at, api.ErrNumber)
	}
	return api.Token{Kind: api.TokInt, Text: text, Int: n, At: at}, nil
}

func float(text string, at int) (api.Token, error) {
	x, err := strconv.ParseFloat(text, 64)
	if err != nil {
		return api.Token{}, fault(at, api.ErrNumber)
	}
	return api.Token{Kind: api.TokFloat, Text: text, Float: x, At: at}, nil
}
