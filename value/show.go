package value

import (
	"strings"

	"bootjack/api"
)

// Show tells any right value as one text; no two that differ have the same.
func Show(v api.Value) string {
	if !Right(v) {
		return ""
	}
	var b strings.Builder
	show(&b, v)
	return b.String()
}

// show writes a value that is right.
func show(b *strings.Builder, v api.Value) {
	switch v.Kind {
	case api.VFunc:
		b.WriteString("function")
	case api.VString:
		quote(b, v.Text)
	case api.VList:
		showList(b, v.Items)
	case api.VSet:
		showSet(b, v)
	default:
		text, _ := Text(v)
		b.WriteString(text)
	}
}

func showList(b *strings.Builder, items []api.Value) {
	b.WriteString("[")
	for _, v := range items {
		b.WriteString(" ")
		show(b, v)
	}
	b.WriteString(" ]")
}

func showSet(b *strings.Builder, v api.Value) {
	b.WriteString("{")
	for i, name := range v.Names {
		b.WriteString(" ")
		quote(b, name)
		b.WriteString("=")
		show(b, v.Items[i])
		b.WriteString(";")
	}
	b.WriteString(" }")
}

// quote goes through the bytes, not the runes: a text is any bytes.
func quote(b *strings.Builder, s string) {
	b.WriteByte('"')
	for i := range len(s) {
		switch c := s[i]; c {
		case '\n':
			b.WriteString(`\n`)
		case '\t':
			b.WriteString(`\t`)
		case '"', '\\':
			b.WriteByte('\\')
			b.WriteByte(c)
		default:
			b.WriteByte(c)
		}
	}
	b.WriteByte('"')
}
