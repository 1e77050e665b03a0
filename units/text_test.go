package units_test

import (
	"errors"
	"strings"
	"testing"

	"bootjack/api"
	"bootjack/units"
)

const (
	longName = "abcdefghijklmno0" // 16 bytes
	ab       = "unit a\nstart x y\nrequires b\nafter\n"
)

func TestS3Text(t *testing.T) {
	for _, c := range []struct {
		l    []api.Unit
		want string
	}{
		{nil, ""},
		{[]api.Unit{{Name: "a"}}, "unit a\nstart \nrequires\nafter\n"},
		{[]api.Unit{{Name: "a", Start: "x y", Requires: []string{"b"}}}, ab},
		{[]api.Unit{{Name: "a", Requires: []string{"c", "b", "c"}, After: []string{"a", "z-9"}}}, "unit a\nstart \nrequires c b c\nafter a z-9\n"},
		{[]api.Unit{{Name: "b", Start: " "}, {Name: "a", Start: "unit"}, {Name: "b", Start: "\x80\xff~"}}, "unit b\nstart  \nrequires\nafter\nunit a\nstart unit\nrequires\nafter\nunit b\nstart \x80\xff~\nrequires\nafter\n"},
		{[]api.Unit{{Name: longName, Requires: []string{longName}, After: []string{"z", longName}}}, "unit " + longName + "\nstart \nrequires " + longName + "\nafter z " + longName + "\n"},
		{[]api.Unit{{Name: "a--"}, {Name: "z09"}}, "unit a--\nstart \nrequires\nafter\nunit z09\nstart \nrequires\nafter\n"},
	} {
		got := units.Text(c.l)
		if got != c.want {
			t.Errorf("Text of %v: %q", c.l, got)
		}
		if l, err := units.Parse(c.want); err != nil || !sameUnits(l, c.l) {
			t.Errorf("Parse(%q): %v, %v", c.want, l, err)
		}
	}
}

func TestS3NoText(t *testing.T) {
	good := api.Unit{Name: "a"}
	wrong := [][]api.Unit{numbered(25), append(numbered(24), api.Unit{})}
	for _, n := range []string{"", "A", "aB", "1", "0a", "-a", "a_", "a.", "a b", "a ", " a", "a\n", "é", "aé", "a\x00", "a/", "a:", "a`", "a{", "`", "{", longName + "a"} {
		wrong = append(wrong, []api.Unit{{Name: n}}, []api.Unit{good, {Name: n}, good},
			[]api.Unit{{Name: "b", Requires: []string{"a", n}}}, []api.Unit{{Name: "b", After: []string{n, "a"}}})
	}
	for c := range 32 {
		wrong = append(wrong, []api.Unit{{Name: "b", Start: "x" + string(rune(c)) + "y"}})
	}
	wrong = append(wrong, []api.Unit{good, {Name: "b", Start: "\x7f"}}, []api.Unit{{Name: "b", Start: "x\n"}})
	for _, l := range wrong {
		if got := units.Text(l); got != "" {
			t.Errorf("Text of %q: %q", l, got)
		}
	}
}

// A Start may have every byte that is not one of those.
func TestS3AllBytesOfStart(t *testing.T) {
	var b []byte
	for c := 32; c < 256; c++ {
		if c != 127 {
			b = append(b, byte(c))
		}
	}
	l := []api.Unit{{Name: "a", Start: string(b)}}
	if got, err := units.Parse(units.Text(l)); err != nil || !sameUnits(got, l) {
		t.Errorf("Parse of Text: %q, %v", got, err)
	}
}

func TestS3All24(t *testing.T) {
	l := numbered(api.MaxUnits)
	for i := range l {
		l[i].Requires, l[i].After = make([]string, 1000), []string{longName}
		for j := range l[i].Requires {
			l[i].Requires[j] = "u"
		}
	}
	if got, err := units.Parse(units.Text(l)); err != nil || !sameUnits(got, l) {
		t.Errorf("Parse of Text: %d units, %v", len(got), err)
	}
}

func TestS3Faults(t *testing.T) {
	full := strings.Repeat(ab, api.MaxUnits)
	for _, c := range []struct {
		text string
		at   int
		e    api.Errno
	}{
		// a line feed is missing
		{"u", 1, api.ErrShort}, {"unit a", 6, api.ErrShort}, {"unit A", 6, api.ErrShort}, {"x y z", 5, api.ErrShort},
		{"unit a\nstart x", 14, api.ErrShort}, {"unit a\nstart x\nwrong", 20, api.ErrShort},
		{"unit a\nstart x\nrequires\nafter", 29, api.ErrShort}, {ab + "unit", len(ab) + 4, api.ErrShort},
		// a line is missing
		{"unit a\n", 7, api.ErrShort}, {"unit a\nstart \n", 14, api.ErrShort}, {"unit a\nstart \nrequires\n", 23, api.ErrShort},
		{ab + "unit b\n", len(ab) + 7, api.ErrShort}, {ab + "unit b\nstart \nrequires a b\n", len(ab) + 27, api.ErrShort},
		// a word that may not stand there
		{"\n", 0, api.ErrWord}, {" \n", 0, api.ErrWord}, {"unit\n", 0, api.ErrWord}, {"unita\n", 0, api.ErrWord}, {"Unit a\n", 0, api.ErrWord}, {" unit a\n", 0, api.ErrWord}, {"\nunit a\n", 0, api.ErrWord},
		{"start x\n", 0, api.ErrWord}, {"unit a\n\n", 7, api.ErrWord}, {"unit a\nstart\n", 7, api.ErrWord}, {"unit a\nstartx\n", 7, api.ErrWord}, {"unit a\nunit b\n", 7, api.ErrWord},
		{"unit a\nstart \nafter\n", 14, api.ErrWord}, {"unit a\nstart \nrequire\n", 14, api.ErrWord}, {"unit a\nstart \n\n", 14, api.ErrWord},
		{"unit a\nstart \nrequires\n\n", 23, api.ErrWord}, {"unit a\nstart \nrequires\nafte\n", 23, api.ErrWord}, {"unit a\nstart \nrequires\nrequires\n", 23, api.ErrWord},
		{ab + "\n", len(ab), api.ErrWord}, {ab + "after\n", len(ab), api.ErrWord},
		// not as it is written
		{"unit \n", 0, api.ErrWord}, {"unit A\n", 0, api.ErrWord}, {"unit  a\n", 0, api.ErrWord}, {"unit a \n", 0, api.ErrWord}, {"unit a b\n", 0, api.ErrWord}, {"unit a\r\n", 0, api.ErrWord}, {"unit 1\n", 0, api.ErrWord},
		{"unit " + longName + "a\n", 0, api.ErrWord}, {"unit a\nstart \t\n", 7, api.ErrWord}, {"unit a\nstart x\r\n", 7, api.ErrWord}, {"unit a\nstart \x7f\n", 7, api.ErrWord}, {"unit a\nstart \x00\n", 7, api.ErrWord}, {"unit a\nstart \x1f\n", 7, api.ErrWord},
		{"unit a\nstart \nrequires \n", 14, api.ErrWord}, {"unit a\nstart \nrequires  b\n", 14, api.ErrWord}, {"unit a\nstart \nrequires b \n", 14, api.ErrWord}, {"unit a\nstart \nrequires b  c\n", 14, api.ErrWord}, {"unit a\nstart \nrequiresb\n", 14, api.ErrWord}, {"unit a\nstart \nrequiresb c\n", 14, api.ErrWord}, {"unit a\nstart \nrequires b C\n", 14, api.ErrWord},
		{"unit a\nstart \nrequires\nafter \n", 23, api.ErrWord}, {"unit a\nstart \nrequires\nafter b, c\n", 23, api.ErrWord}, {"unit a\nstart \nrequires\nafterb\n", 23, api.ErrWord}, {"unit a\nstart \nrequires\nafter " + longName + "a\n", 23, api.ErrWord}, {"unit a\nstart \nrequires\nafter\tb\n", 23, api.ErrWord},
		// the first line with a fault counts
		{"unit A\nstart", 0, api.ErrWord}, {"unit a\nstart\nrequires", 7, api.ErrWord}, {"unit\nstart\n", 0, api.ErrWord}, {"unit\n" + full + full, 0, api.ErrWord},
		// one too many
		{full + ab, len(full), api.ErrMany}, {full + full, len(full), api.ErrMany}, {full + "unit a\n", len(full), api.ErrMany}, {full + "unit a\nx", len(full), api.ErrMany}, {full + "unit a\nstart\n", len(full), api.ErrMany},
		{full + "unit a", len(full) + 6, api.ErrShort}, {full + "unit A\n", len(full), api.ErrWord}, {full + "\n", len(full), api.ErrWord}, {full[:len(full)-1], len(full) - 1, api.ErrShort},
	} {
		l, err := units.Parse(c.text)
		f, ok := err.(*api.Fault)
		if !ok || f.At != c.at || f.Err != c.e || len(l) != 0 || !errors.Is(err, c.e) {
			t.Errorf("Parse(%.60q): %v, %+v; want %d at %d", c.text, l, err, c.e, c.at)
		}
	}
	if l, err := units.Parse(full); err != nil || len(l) != api.MaxUnits {
		t.Errorf("Parse of as many as there may be: %d, %v", len(l), err)
	}
	if l, err := units.Parse(""); err != nil || len(l) != 0 {
		t.Errorf("Parse of nothing: %v, %v", l, err)
	}
}
