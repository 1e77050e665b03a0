package render_test

import (
	"bytes"
	"fmt"
	"math/rand/v2"
	"strings"
	"testing"

	"bootjack/api"
	"bootjack/render"
	"bootjack/value"
)

// The model writes a system as text by the chapter's words, item by item, and
// a manifest from behind, line ahead of line.

func modelSystem(c api.Config) string {
	l := []string{}
	for _, f := range c.Files {
		l = append(l, fmt.Sprintf("%q %d %q", f.Name, api.KindFile, f.Text+strings.Repeat("\n", min(len(f.Text), 1))))
	}
	for _, u := range c.Users {
		l = append(l, fmt.Sprintf("%q", u))
	}
	for _, u := range c.Units {
		start := append([]string{u.Name}, u.Start)[min(len(u.Start), 1)]
		l = append(l, fmt.Sprintf("%q %q %q %q", u.Name, start, u.Requires, u.After))
	}
	return strings.Join(l, ", ")
}

func systemText(s api.System) string {
	l := []string{}
	for _, f := range s.Files {
		l = append(l, fmt.Sprintf("%q %d %q", f.Path, f.Kind, f.Data))
	}
	for _, u := range s.Users {
		l = append(l, fmt.Sprintf("%q", u))
	}
	for _, u := range s.Units {
		l = append(l, fmt.Sprintf("%q %q %q %q", u.Name, u.Start, u.Requires, u.After))
	}
	return strings.Join(l, ", ")
}

func modelManifest(c api.Config) string {
	m := ""
	for i := range c.Units {
		m = "unit " + c.Units[len(c.Units)-1-i].Name + "\n" + m
	}
	for i := range c.Users {
		m = "user " + c.Users[len(c.Users)-1-i] + "\n" + m
	}
	for i := range c.Files {
		m = "file " + c.Files[len(c.Files)-1-i].Name + "\n" + m
	}
	for i := range c.Settings {
		s := c.Settings[len(c.Settings)-1-i]
		m = s.Path + " = " + value.Show(s.Value) + "\n" + m
	}
	return m
}

func randomText(r *rand.Rand) string {
	return []string{"", "", "a", "b", "net", "etc/a", "a.b", "x y", "\n", "x\n", "\xff", "\"", "=", "file a"}[r.IntN(14)]
}

func randomTexts(r *rand.Rand) []string {
	var l []string
	for range r.IntN(4) {
		l = append(l, randomText(r))
	}
	return l
}

func randomValue(r *rand.Rand, room int) api.Value {
	switch k := r.IntN(9); {
	case k == api.VInt, k == api.VBool:
		return api.Value{Kind: k, Int: r.Int64N(3)}
	case k == api.VFloat:
		return api.Value{Kind: k, Float: r.NormFloat64()}
	case k == api.VString:
		return text(randomText(r))
	case k == api.VList && room > 0:
		v := list()
		for range r.IntN(4) {
			v.Items = append(v.Items, randomValue(r, room-1))
		}
		return v
	case k == api.VSet && room > 0:
		return api.Value{Kind: k, Names: []string{"a", randomText(r)}, Items: []api.Value{randomValue(r, room-1), randomValue(r, room-1)}}
	default:
		return api.Value{Kind: k}
	}
}

func randomConfig(r *rand.Rand) (c api.Config) {
	for range r.IntN(4) {
		c.Settings = append(c.Settings, api.Setting{Path: randomText(r), Value: randomValue(r, 3)})
	}
	for range r.IntN(4) {
		c.Files = append(c.Files, file(randomText(r), randomText(r)))
	}
	c.Users = randomTexts(r)
	for range r.IntN(4) {
		c.Units = append(c.Units, api.Unit{Name: randomText(r), Start: randomText(r), Requires: randomTexts(r), After: randomTexts(r)})
	}
	return c
}

func checkModel(t *testing.T, c api.Config) {
	t.Helper()
	before := fmt.Sprintf("%#v", c)
	if got, want := systemText(render.System(c)), modelSystem(c); got != want {
		t.Fatalf("System of %+v: %s; must be %s", c, got, want)
	}
	if got, want := render.Manifest(c), modelManifest(c); got != want {
		t.Fatalf("Manifest of %+v: %q; must be %q", c, got, want)
	}
	if after := fmt.Sprintf("%#v", c); after != before {
		t.Fatalf("%s has become %s", before, after)
	}
}

func TestModel(t *testing.T) {
	r := rand.New(rand.NewPCG(19, 1))
	for range 20000 {
		checkModel(t, randomConfig(r))
	}
}

// FuzzModel takes any bytes as what a configuration says.
func FuzzModel(f *testing.F) {
	f.Add([]byte("etc/a|x|www|net|"), byte('|'))
	f.Add([]byte("\n\xff\n\n"), byte('\n'))
	f.Fuzz(func(t *testing.T, data []byte, apart byte) {
		var c api.Config
		for i, part := range bytes.Split(data, []byte{apart}) {
			s := string(part)
			switch i % 4 {
			case 0:
				c.Settings = append(c.Settings, api.Setting{Path: s, Value: text(s)})
			case 1:
				c.Files = append(c.Files, file(s, s))
			case 2:
				c.Users = append(c.Users, s)
			case 3:
				c.Units = append(c.Units, unit(s, strings.TrimSpace(s)))
			}
		}
		checkModel(t, c)
	})
}
