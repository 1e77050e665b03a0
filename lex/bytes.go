package lex

const (
	quote  = '"'
	escape = '\\'
	remark = '#'
	point  = '.'
	tab    = 9
	feed   = 10
	back   = 13
	space  = 32
	del    = 127
)

func blank(c byte) bool {
	return c == space || c == tab || c == feed || c == back
}

func withinLine(c byte) bool {
	return c != feed
}

func letter(c byte) bool {
	return 'a' <= c && c <= 'z' || 'A' <= c && c <= 'Z'
}

func digit(c byte) bool {
	return '0' <= c && c <= '9'
}

func beginsName(c byte) bool {
	return letter(c) || c == '_'
}

func withinName(c byte) bool {
	return beginsName(c) || digit(c) || c == '\'' || c == '-'
}

// plain tells whether a byte stands for itself in a string.
func plain(c byte) bool {
	switch c {
	case tab, feed:
		return true
	case quote, escape, del:
		return false
	}
	return c >= space
}
