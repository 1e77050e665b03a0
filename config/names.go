package config

import (
	"slices"
	"strings"
)

const (
	maxFileBytes = 60
	maxPartBytes = 30
	maxUserBytes = 16
)

// isFileName asks for names with a `/` between them.
func isFileName(s string) bool {
	return len(s) <= maxFileBytes && !slices.ContainsFunc(strings.Split(s, "/"), isNoPartName)
}

func isNoPartName(s string) bool {
	return s == "" || s == "." || s == ".." || len(s) > maxPartBytes || slices.ContainsFunc([]byte(s), isNoPartByte)
}

func isNoPartByte(c byte) bool {
	return !isSmallLetter(c) && !isDigit(c) && c != '.' && c != '_' && c != '-'
}

// isNoUserName is asked of services' names, too.
func isNoUserName(s string) bool {
	return s == "" || len(s) > maxUserBytes || !isSmallLetter(s[0]) || slices.ContainsFunc([]byte(s), isNoUserByte)
}

func isNoUserByte(c byte) bool { return !isSmallLetter(c) && !isDigit(c) && c != '-' }

func isSmallLetter(c byte) bool { return c >= 'a' && c <= 'z' }

func isDigit(c byte) bool { return c >= '0' && c <= '9' }
