package units_test

import (
	"math/bits"
	"math/rand/v2"
	"regexp"
	"slices"
	"strings"
	"testing"

	"bootjack/api"
	"bootjack/units"
)

// The model looks at all there is: of an order all rows of the units, of a
// change all choices of what stays, of a text each line by a pattern.

func waitsFor(u api.Unit, name string) bool {
	return slices.Contains(u.Requires, name) || slices.Contains(u.After, name)
}

// goesBehind tells whether a unit may stand behind those that are told.
func goesBehind(u api.Unit, ahead, all []api.Unit) bool {
	return !slices.ContainsFunc(all, func(v api.Unit) bool {
		return waitsFor(u, v.Name) && !slices.ContainsFunc(ahead, func(w api.Unit) bool { return w.Name == v.Name })
	})
}

// leastRow is the least of all rows of the units, by their names, in which each
// stands behind all that it waits for; nil, if there is none.
func leastRow(l []api.Unit) []api.Unit {
	var best []api.Unit
	var try func(row []api.Unit)
	try = func(row []api.Unit) {
		if len(row) == len(l) && (best == nil || slices.CompareFunc(row, best, func(a, b api.Unit) int { return strings.Compare(a.Name, b.Name) }) < 0) {
			best = slices.Clone(row)
		}
		for _, u := range l {
			if !slices.ContainsFunc(row, func(v api.Unit) bool { return v.Name == u.Name }) && goesBehind(u, row, l) {
				try(append(row, u))
			}
		}
	}
	try(nil)
	return best
}

// stuck is the least name in the greatest choice of units in which each waits
// for one of them.
func stuck(l []api.Unit) string {
	best := []api.Unit{}
	for m := range 1 << len(l) {
		chosen := pick(l, m)
		if len(chosen) > len(best) && !slices.ContainsFunc(chosen, func(u api.Unit) bool {
			return !slices.ContainsFunc(chosen, func(v api.Unit) bool { return waitsFor(u, v.Name) })
		}) {
			best = chosen
		}
	}
	return slices.MinFunc(best, func(a, b api.Unit) int { return strings.Compare(a.Name, b.Name) }).Name
}

func pick(l []api.Unit, m int) []api.Unit {
	var out []api.Unit
	for i, u := range l {
		if m>>i&1 == 1 {
			out = append(out, u)
		}
	}
	return out
}

func modelOrder(l []api.Unit) ([]api.Unit, string, api.Errno) {
	if len(l) > api.MaxUnits {
		return nil, "", api.ErrMany
	}
	has := func(l []api.Unit, name string) bool {
		return slices.ContainsFunc(l, func(u api.Unit) bool { return u.Name == name })
	}
	var lacking []string
	for i, u := range l {
		if has(l[:i], u.Name) {
			return nil, u.Name, api.ErrTwice
		}
		if slices.ContainsFunc(u.Requires, func(n string) bool { return !has(l, n) }) {
			lacking = append(lacking, u.Name)
		}
	}
	if lacking != nil {
		return nil, slices.Min(lacking), api.ErrUnit
	}
	row := leastRow(l)
	if row == nil && len(l) > 0 {
		return nil, stuck(l), api.ErrCycle
	}
	return row, "", api.OK
}

// firsts leaves out a unit whose name stands ahead of it.
func firsts(l []api.Unit) []api.Unit {
	var out []api.Unit
	for _, u := range l {
		if _, ok := find(out, u.Name); !ok {
			out = append(out, u)
		}
	}
	return out
}

func find(l []api.Unit, name string) (api.Unit, bool) {
	i := slices.IndexFunc(l, func(u api.Unit) bool { return u.Name == name })
	if i < 0 {
		return api.Unit{}, false
	}
	return l[i], true
}

// mayStay tells whether a choice of units of old holds.
func mayStay(chosen, old, fresh []api.Unit) bool {
	for _, u := range chosen {
		v, ok := find(fresh, u.Name)
		if !ok || !sameUnit(u, v) {
			return false
		}
		for _, r := range u.Requires {
			_, stays := find(chosen, r)
			_, inOld := find(old, r)
			_, inFresh := find(fresh, r)
			if !stays && (inOld || inFresh) {
				return false
			}
		}
	}
	return true
}

func modelDiff(old, fresh []api.Unit) string {
	old, fresh = firsts(old), firsts(fresh)
	best := 0
	for m := range 1 << len(old) {
		if bits.OnesCount(uint(m)) > bits.OnesCount(uint(best)) && mayStay(pick(old, m), old, fresh) {
			best = m
		}
	}
	var stop, stay, start []string
	stays := pick(old, best)
	for _, u := range old {
		if _, ok := find(stays, u.Name); !ok {
			stop = slices.Insert(stop, 0, u.Name)
		}
	}
	for _, u := range fresh {
		if _, ok := find(stays, u.Name); ok {
			stay = append(stay, u.Name)
		} else {
			start = append(start, u.Name)
		}
	}
	return strings.Join(stop, " ") + "|" + strings.Join(stay, " ") + "|" + strings.Join(start, " ")
}

func someNames(r *rand.Rand, names []string, most int) []string {
	var out []string
	for range r.IntN(most + 1) {
		out = append(out, names[r.IntN(len(names))])
	}
	return out
}

func randomUnits(r *rand.Rand, n int, names []string) []api.Unit {
	var out []api.Unit
	for range n {
		out = append(out, api.Unit{Name: names[r.IntN(len(names))], Start: []string{"", "x", "x y"}[r.IntN(3)], Requires: someNames(r, names, 2), After: someNames(r, names, 1)})
	}
	return out
}

// spread gives the units names of their own.
func spread(r *rand.Rand, l []api.Unit, names []string) []api.Unit {
	for i, p := range r.Perm(len(names))[:min(len(l), len(names))] {
		l[i].Name = names[p]
	}
	return l
}

func TestS1Model(t *testing.T) {
	r := rand.New(rand.NewPCG(17, 1))
	seen := map[api.Errno]int{}
	for range 30000 {
		names := []string{"a", "b", "B", "a1", "ba", "", "x"}[:2+r.IntN(6)]
		l := randomUnits(r, r.IntN(len(names)+1), names)
		if r.IntN(4) > 0 {
			l = spread(r, l, names)
		}
		got, name, e := units.Order(l)
		want, wantName, wantErr := modelOrder(l)
		if !sameUnits(got, want) || name != wantName || e != wantErr {
			t.Fatalf("Order of %q: %q, %q, %d; want %q, %q, %d", l, got, name, e, want, wantName, wantErr)
		}
		seen[e]++
		r.Shuffle(len(l), func(i, j int) { l[i], l[j] = l[j], l[i] })
		again, name, e2 := units.Order(l)
		if !sameUnits(got, again) || e2 != e || e != api.ErrTwice && name != wantName {
			t.Fatalf("Order hangs on how units stood: %q", l)
		}
	}
	for _, e := range []api.Errno{api.OK, api.ErrTwice, api.ErrUnit, api.ErrCycle} {
		if seen[e] < 1000 {
			t.Errorf("error %d was met %d times alone", e, seen[e])
		}
	}
}

// What follows: in the order each unit stands behind all that it waits for.
func TestS1Behind(t *testing.T) {
	r := rand.New(rand.NewPCG(17, 2))
	for range 3000 {
		l := numbered(1 + r.IntN(api.MaxUnits))
		p := r.Perm(len(l))
		for i := range l {
			for j := range l {
				if p[j] < p[i] && r.IntN(8) == 0 {
					l[i].Requires = append(l[i].Requires, l[j].Name)
				} else if p[j] < p[i] && r.IntN(8) == 0 {
					l[i].After = append(l[i].After, l[j].Name)
				}
			}
		}
		r.Shuffle(len(l), func(i, j int) { l[i], l[j] = l[j], l[i] })
		got, _, e := units.Order(l)
		if e != api.OK || len(got) != len(l) {
			t.Fatalf("Order of %v: %d", l, e)
		}
		for i, u := range got {
			if v, ok := find(l, u.Name); !ok || !sameUnit(u, v) || !goesBehind(u, got[:i], got) {
				t.Fatalf("Order of %v: %v", l, namesOf(got))
			}
		}
	}
}

func TestS2Model(t *testing.T) {
	r := rand.New(rand.NewPCG(17, 3))
	for range 30000 {
		names := []string{"a", "b", "c", "d", "e", "f", "g"}[:1+r.IntN(7)]
		old := randomUnits(r, r.IntN(8), names)
		fresh := slices.Clone(old)
		for range r.IntN(3) {
			if len(fresh) > 0 {
				fresh[r.IntN(len(fresh))] = randomUnits(r, 1, names)[0]
			}
		}
		if r.IntN(3) == 0 {
			fresh = append(fresh, randomUnits(r, 1, names)...)
		}
		r.Shuffle(len(fresh), func(i, j int) { fresh[i], fresh[j] = fresh[j], fresh[i] })
		if got, want := diffText(old, fresh), modelDiff(old, fresh); got != want {
			t.Fatalf("Diff of %v and %v: %s; want %s", old, fresh, got, want)
		}
		stop, stay, start := units.Diff(old, old)
		if len(stop)+len(start) > 0 || strings.Join(stay, " ") != namesOf(firsts(old)) {
			t.Fatalf("Diff of %v with itself: %v, %v, %v", old, stop, stay, start)
		}
	}
}

var (
	oneName = `[a-z][a-z0-9-]{0,15}`
	lines   = []*regexp.Regexp{
		regexp.MustCompile(`^unit (` + oneName + `)\n$`),
		regexp.MustCompile(`(?s)^start ([^\x00-\x1f\x7f]*)\n$`),
		regexp.MustCompile(`^requires((?: ` + oneName + `)*)\n$`),
		regexp.MustCompile(`^after((?: ` + oneName + `)*)\n$`),
	}
)

// modelParse gives the units, or an error and its place.
func modelParse(text string) ([]api.Unit, int, api.Errno) {
	var found []string
	at := 0
	for at < len(text) || len(found)%4 > 0 {
		n := strings.Index(text[at:], "\n") + 1
		if n == 0 {
			return nil, len(text), api.ErrShort
		}
		m := lines[len(found)%4].FindStringSubmatch(text[at : at+n])
		if m == nil {
			return nil, at, api.ErrWord
		}
		if len(found) == 4*api.MaxUnits {
			return nil, at, api.ErrMany
		}
		found, at = append(found, m[1]), at+n
	}
	var out []api.Unit
	for f := range slices.Chunk(found, 4) {
		out = append(out, api.Unit{Name: f[0], Start: f[1], Requires: strings.Fields(f[2]), After: strings.Fields(f[3])})
	}
	return out, 0, api.OK
}

func checkParse(t *testing.T, text string) api.Errno {
	t.Helper()
	got, err := units.Parse(text)
	want, at, e := modelParse(text)
	if e != api.OK {
		if f, ok := err.(*api.Fault); !ok || *f != (api.Fault{At: at, Err: e}) || len(got) != 0 {
			t.Fatalf("Parse(%q): %q, %+v; want %d at %d", text, got, err, e, at)
		}
		return e
	}
	if err != nil || !sameUnits(got, want) || units.Text(got) != text {
		t.Fatalf("Parse(%q): %q, %v; want %q", text, got, err, want)
	}
	return e
}

func spoilText(r *rand.Rand, text string) string {
	pieces := []string{"\n", " ", "unit ", "unit a\n", "start ", "start\n", "requires", "requires a\n", "after", "after\n", "a", "A", "-", "0", "\x7f", "\xff", ""}
	i := r.IntN(len(text) + 1)
	j := min(i+r.IntN(3), len(text))
	return text[:i] + pieces[r.IntN(len(pieces))] + text[j:]
}

func TestS3Model(t *testing.T) {
	r := rand.New(rand.NewPCG(17, 4))
	seen := map[api.Errno]int{}
	for range 60000 {
		l := randomUnits(r, r.IntN(4), []string{"a", "b-1", longName, "z"})
		if r.IntN(10) == 0 {
			l = randomUnits(r, 22+r.IntN(3), []string{"a", "b"})
		}
		text := units.Text(l)
		if got, err := units.Parse(text); err != nil || !sameUnits(got, l) {
			t.Fatalf("Parse of Text of %v: %v, %v", l, got, err)
		}
		if r.IntN(5) == 0 {
			text += text
		}
		for range r.IntN(3) {
			text = spoilText(r, text)
		}
		seen[checkParse(t, text)]++
	}
	for _, e := range []api.Errno{api.OK, api.ErrShort, api.ErrWord, api.ErrMany} {
		if seen[e] < 500 {
			t.Errorf("error %d was met %d times alone", e, seen[e])
		}
	}
}

func FuzzS3Parse(f *testing.F) {
	for _, s := range []string{"", "\n", ab, ab + ab, "unit a", "unit a\nstart \n", strings.Repeat(ab, 25), "unit a\nstart \xff\nrequires  b\n"} {
		f.Add(s)
	}
	f.Fuzz(func(t *testing.T, text string) { checkParse(t, text) })
}
