package types

import (
	"math"
	"slices"
	"strconv"
	"strings"
)

const (
	maxBytes  = 64
	maxWords  = 8
	maxDigits = 9
)

// kind is a type that was read: its first word, and what stands behind it.
type kind struct {
	word      string
	low, high int64    // of int: from where up to where
	choices   []string // of enum
	items     *kind    // of list and attrs: what their items are
}

// read gives nil of a text that is no type.
func read(t string) *kind {
	if len(t) > maxBytes {
		return nil
	}
	words := strings.Split(t, " ")
	if len(words) > maxWords {
		return nil
	}
	return readWords(words)
}

func readWords(words []string) *kind {
	if len(words) == 0 {
		return nil
	}
	word, rest := words[0], words[1:]
	switch word {
	case "bool", "float", "string", "lines", "unit":
		return readBare(word, rest)
	case "int":
		return readInt(rest)
	case "enum":
		return readEnum(rest)
	case "list", "attrs":
		return readOuter(word, rest)
	}
	return nil
}

func readBare(word string, rest []string) *kind {
	if len(rest) > 0 {
		return nil
	}
	return &kind{word: word}
}

func readInt(rest []string) *kind {
	k := &kind{word: "int", low: math.MinInt64, high: math.MaxInt64}
	if len(rest) == 0 {
		return k
	}
	if len(rest) != 2 || !isNumber(rest[0]) || !isNumber(rest[1]) {
		return nil
	}
	k.low, k.high = numberOf(rest[0]), numberOf(rest[1])
	if k.low > k.high {
		return nil
	}
	return k
}

func readEnum(rest []string) *kind {
	if len(rest) == 0 {
		return nil
	}
	for i, word := range rest {
		if !isChoice(word) || slices.Contains(rest[:i], word) {
			return nil
		}
	}
	return &kind{word: "enum", choices: rest}
}

func readOuter(word string, rest []string) *kind {
	items := readWords(rest)
	if items == nil {
		return nil
	}
	return &kind{word: word, items: items}
}

// isNumber refuses a nought ahead, so that a number is written in one way.
func isNumber(s string) bool {
	if len(s) == 0 || len(s) > maxDigits || len(s) > 1 && s[0] == '0' {
		return false
	}
	return !slices.ContainsFunc([]byte(s), isNoDigit)
}

func isNoDigit(c byte) bool { return c < '0' || c > '9' }

// numberOf can't fail: so few digits fit.
func numberOf(s string) int64 {
	n, _ := strconv.ParseInt(s, 10, 64)
	return n
}

func isChoice(s string) bool {
	return s != "" && !slices.ContainsFunc([]byte(s), isForeign)
}

// isForeign tells whether a byte may not stand in an enum's word.
func isForeign(c byte) bool {
	return (c < 'a' || c > 'z') && isNoDigit(c) && c != '-'
}
