package machine_test

import (
	"fmt"
	"maps"
	"math/rand/v2"
	"regexp"
	"slices"
	"strings"
	"testing"

	"bootjack/api"
	"bootjack/machine"
)

// The model keeps what there is as texts: files and users by their names in
// maps, that are sorted when they are told, and a row of the units that run.
type model struct {
	files, users map[string]string
	names, texts []string // of the units that run
	plan         []bool
}

func newModel() *model { return &model{files: map[string]string{}, users: map[string]string{}} }

var (
	nameWords  = regexp.MustCompile(`^[a-zA-Z0-9._+-]{1,36}\z`)
	startWords = regexp.MustCompile(`^[ -~]{1,120}\z`)
)

func isName(s string) bool { return nameWords.MatchString(s) && s != "." && s != ".." }

func areNames(l []string, most int) bool {
	return len(l) <= most && !slices.ContainsFunc(l, func(s string) bool { return !isName(s) })
}

func isPath(s string) bool {
	return s == "/" || len(s) <= 200 && strings.HasPrefix(s, "/") && areNames(strings.Split(s[1:], "/"), 16)
}

func isTree(f api.Entry) bool {
	return len(f.Path) <= 120 && areNames(strings.Split(f.Path, "/"), 4) && len(f.Data) <= 2048 &&
		(f.Kind == api.KindFile || f.Kind == api.KindLink && isPath(string(f.Data)))
}

func isUnit(u api.Unit) bool {
	return isName(u.Name) && startWords.MatchString(u.Start) && areNames(append(slices.Clone(u.Requires), u.After...), 1000)
}

// try takes a bool off the plan, and does what is to be done if it may.
func (m *model) try(do func()) api.Errno {
	if len(m.plan) > 0 {
		fails := m.plan[0]
		m.plan = m.plan[1:]
		if fails {
			return api.ErrService
		}
	}
	do()
	return api.OK
}

// into puts a text into a map that has room for so many.
func into(all map[string]string, name, text string, most int) api.Errno {
	old, ok := all[name]
	all[name] = text
	if len(all) <= most {
		return api.OK
	}
	delete(all, name)
	if ok {
		all[name] = old
	}
	return api.ErrStep
}

func (m *model) do(a api.Act) api.Errno {
	at := slices.Index(m.names, a.Name)
	switch a.Kind {
	case api.StepStop:
		if at < 0 {
			return api.OK
		}
		return m.try(func() {
			m.names, m.texts = slices.Delete(m.names, at, at+1), slices.Delete(m.texts, at, at+1)
		})
	case api.StepRemove:
		delete(m.files, a.Name)
		return api.OK
	case api.StepDrop:
		delete(m.users, a.Name)
		return api.OK
	case api.StepFile:
		if !isTree(a.File) || a.Name != a.File.Path {
			return api.ErrStep
		}
		return into(m.files, a.Name, showFile(a.File), 24)
	case api.StepUser:
		if !isName(a.Name) {
			return api.ErrStep
		}
		return into(m.users, a.Name, "", 16)
	case api.StepStart:
		return m.start(a, at)
	}
	return api.ErrStep
}

func (m *model) start(a api.Act, at int) api.Errno {
	if !isUnit(a.Unit) || a.Unit.Name != a.Name || at >= 0 && m.texts[at] != showUnit(a.Unit) {
		return api.ErrStep
	}
	for _, name := range a.Unit.Requires {
		if !slices.Contains(m.names, name) {
			return api.ErrStep
		}
	}
	if at >= 0 {
		return api.OK
	}
	if len(m.names) >= 24 {
		return api.ErrStep
	}
	return m.try(func() {
		m.names, m.texts = append(m.names, a.Name), append(m.texts, showUnit(a.Unit))
	})
}

func (m *model) show() string {
	var files []string
	for _, path := range slices.Sorted(maps.Keys(m.files)) {
		files = append(files, m.files[path])
	}
	return fmt.Sprintf("files %s; users %q; runs %s", strings.Join(files, ", "), slices.Sorted(maps.Keys(m.users)), strings.Join(m.texts, ", "))
}

func pick[T any](r *rand.Rand, of ...T) T { return of[r.IntN(len(of))] }

// chance makes a script's acts. Of few names many acts are done already, of
// many the machine is full at last; builds says how many of ten acts make more.
type chance struct {
	*rand.Rand
	names, builds int
}

func newChance(seed uint64) chance {
	r := rand.New(rand.NewPCG(20, seed))
	return chance{r, pick(r, 2, 4, 40, 60), pick(r, 5, 7, 9)}
}

func (r chance) name() string {
	if r.IntN(50) == 0 {
		return pick(r.Rand, "", ".", "..", "a b", "a/b", "\xff", strings.Repeat("n", 36), strings.Repeat("n", 37), "+", "Z")
	}
	return numbered("n", r.IntN(r.names))
}

func (r chance) list() []string {
	var l []string
	for r.IntN(5) == 0 {
		l = append(l, r.name())
	}
	return l
}

func (r chance) file() api.Entry {
	path := r.name()
	for r.IntN(8) == 0 {
		path += "/" + r.name()
	}
	switch r.IntN(40) {
	case 0:
		return api.Entry{Path: path, Kind: r.IntN(6) - 1, Data: []byte("/a")}
	case 1:
		return file(path, strings.Repeat("x", 2047+r.IntN(3)))
	case 2:
		return link(path, pick(r.Rand, "", "a", "/a/", "/.", "/a b"))
	}
	if r.IntN(4) == 0 {
		return link(path, pick(r.Rand, "/", "/a", "/a/b"))
	}
	return file(path, pick(r.Rand, "", "x", "\n", "\xff"))
}

func (r chance) unit() api.Unit {
	u := api.Unit{Name: r.name(), Start: pick(r.Rand, "x", "x", "x", "x", "y", " ", "~ ~", strings.Repeat("x", 120)), Requires: r.list()}
	if r.IntN(4) == 0 {
		u.After = r.list()
	}
	if r.IntN(30) == 0 {
		u.Start = pick(r.Rand, "", "\n", "x\x7f", "\x1fx", "\x80", strings.Repeat("x", 121))
	}
	return u
}

func (r chance) act() api.Act {
	a := api.Act{Kind: pick(r.Rand, api.StepStop, api.StepRemove, api.StepDrop), Name: r.name()}
	if r.IntN(10) < r.builds {
		a.Kind = pick(r.Rand, api.StepFile, api.StepUser, api.StepStart, api.StepStart)
	}
	if r.IntN(50) == 0 {
		a.Kind = r.IntN(20) - 10
	}
	if a.Kind == api.StepFile || r.IntN(10) == 0 {
		a.File = r.file()
	}
	if a.Kind == api.StepStart || r.IntN(10) == 0 {
		a.Unit = r.unit()
	}
	if r.IntN(30) == 0 {
		return a
	}
	switch a.Kind {
	case api.StepFile:
		a.Name = a.File.Path
	case api.StepStart:
		a.Name = a.Unit.Name
	}
	return a
}

func (r chance) plan() []bool {
	var l []bool
	for range r.IntN(12) {
		l = append(l, r.IntN(3) == 0)
	}
	return l
}

// twin is a machine and its model, told the same.
type twin struct {
	*testing.T
	real  *machine.Machine
	plain *model
}

func (w twin) check(what any) {
	w.Helper()
	if got, want := show(w.real.Observe()), w.plain.show(); got != want {
		w.Fatalf("behind %.500v: %s; must be %s", what, got, want)
	}
}

// do does an act on both; if it was done, it is done again, and changes
// nothing; if it was not, it has changed nothing (Q3).
func (w twin) do(a api.Act) api.Errno {
	w.Helper()
	before := show(w.real.Observe())
	got, want := w.real.Do(a), w.plain.do(a)
	if got != want {
		w.Fatalf("Do(%.500v): %d; must be %d; ahead of it %s", a, got, want, before)
	}
	w.check(a)
	now := show(w.real.Observe())
	if got != api.OK {
		if now != before {
			w.Fatalf("Do(%.500v): %d, and it has changed %s to %s", a, got, before, now)
		}
		return got
	}
	if e := w.real.Do(a); e != api.OK || show(w.real.Observe()) != now {
		w.Fatalf("Do(%.500v), done again: %d, %s; must be done, and %s", a, e, show(w.real.Observe()), now)
	}
	return got
}

func TestScriptsAgainstTheModel(t *testing.T) {
	count := map[api.Errno]int{}
	files, users, units := 0, 0, 0
	for seed := range uint64(250) {
		r, w := newChance(seed), twin{t, machine.New(), newModel()}
		for range 150 {
			switch r.IntN(60) {
			case 0, 1, 2:
				plan := r.plan()
				w.real.Plan(plan)
				w.plain.plan = plan
				w.check(plan)
			case 3:
				if r.IntN(8) > 0 {
					continue
				}
				w.real.Reset()
				w.plain = &model{files: map[string]string{}, users: map[string]string{}, plan: w.plain.plan}
				w.check("Reset")
			default:
				count[w.do(r.act())]++
			}
		}
		o := w.real.Observe()
		files, users, units = max(files, len(o.Files)), max(users, len(o.Users)), max(units, len(o.Running))
		mustHaveRoomFor(w)
	}
	if count[api.OK] < 10000 || count[api.ErrStep] < 4000 || count[api.ErrService] < 500 || len(count) != 3 {
		t.Error("just so many answers:", count)
	}
	if files != api.MaxEntries || users != api.MaxUsers || units != api.MaxUnits {
		t.Error("never full:", files, users, units)
	}
}

// mustHaveRoomFor goes on with as many as there is room for, and one more of
// each, so that a script ends with a full machine.
func mustHaveRoomFor(w twin) {
	w.Helper()
	w.real.Plan(nil)
	w.plain.plan = nil
	for k := range 25 {
		name := numbered("last", k)
		w.do(put(file(name, "")))
		w.do(user(name))
		w.do(start(unit(name)))
	}
	if len(w.plain.files) != 24 || len(w.plain.users) != 16 || len(w.plain.names) != 24 {
		w.Fatal("the model is not full:", w.plain.show())
	}
}

// Two machines that are told the same answer the same (R4).
func TestR4SameAnswers(t *testing.T) {
	for seed := range uint64(50) {
		r, one, other := newChance(seed), machine.New(), machine.New()
		var l []api.Act
		for range 200 {
			l = append(l, r.act())
		}
		plan := r.plan()
		one.Plan(plan)
		other.Plan(plan)
		for _, a := range l {
			if e, f := one.Do(a), other.Do(a); e != f {
				t.Fatalf("Do(%v): %d and %d", a, e, f)
			}
			other.Observe()
		}
		if show(one.Observe()) != show(other.Observe()) {
			t.Fatalf("%s and %s", show(one.Observe()), show(other.Observe()))
		}
	}
}

// FuzzScripts takes each byte of a text as a choice.
func FuzzScripts(f *testing.F) {
	f.Add("a", "b", "run", []byte("\x01\x02\x03\x04\x05\x06\x00\x07"), byte(5))
	f.Add("a/b", "a", "~", []byte("\x04\x24\x44\x06\x26\x46\x01\x05\x03"), byte(0))
	f.Add("n0", "", "x\x7f", []byte("\x16\x36\x56\x76\x96\xb6\x21\x41"), byte(255))
	f.Fuzz(func(t *testing.T, name, other, text string, steps []byte, fails byte) {
		w := twin{t, machine.New(), newModel()}
		var plan []bool
		for k := range 8 {
			plan = append(plan, fails>>k&1 == 1)
		}
		w.real.Plan(plan)
		w.plain.plan = plan
		for _, s := range steps[:min(len(steps), 200)] {
			names := []string{name, other, name + other, name + "-"}
			a := api.Act{Kind: int(s % 8), Name: names[s>>3%4]}
			a.File = api.Entry{Path: a.Name, Kind: int(s >> 5), Data: []byte(text)}
			a.Unit = api.Unit{Name: a.Name, Start: text, Requires: names[:s>>5%3], After: names[:s>>7]}
			w.do(a)
		}
	})
}
