package activate_test

import (
	"fmt"
	"math/rand/v2"
	"regexp"
	"slices"
	"strconv"
	"strings"
	"testing"

	"bootjack/activate"
	"bootjack/api"
	"bootjack/machine"
)

// The model knows texts by patterns, and lists by what is to be seen of them.
const (
	namePart = `([a-zA-Z0-9._+-]{1,36})`
	pathPart = `([a-zA-Z0-9._+/-]{1,120})`
)

var (
	aName    = regexp.MustCompile(`^` + namePart + `\z`)
	aStart   = regexp.MustCompile(`^[ -~]{1,120}\z`)
	nameLine = regexp.MustCompile(`^(stop|drop|user) ` + namePart + "\n")
	pathLine = regexp.MustCompile(`^remove ` + pathPart + "\n")
	fileLine = regexp.MustCompile(`^file ([fl]) ` + pathPart + " (0|[1-9][0-9]{0,3})\n")
	unitText = `([ -~]{1,120})` + "\n((?:requires " + namePart + "\n)*)((?:after " + namePart + "\n)*)"
	startRow = regexp.MustCompile(`^start ` + namePart + "\nrun " + unitText)
	unitRow  = regexp.MustCompile(`^unit ` + namePart + "\nrun " + unitText)
	userRow  = regexp.MustCompile(`^user ` + namePart + "\n")
)

func isName(s string) bool { return aName.MatchString(s) && s != "." && s != ".." }

func areNames(l []string) bool {
	for _, s := range l {
		if !isName(s) {
			return false
		}
	}
	return true
}

func isUnit(u api.Unit) bool {
	return isName(u.Name) && aStart.MatchString(u.Start) && areNames(u.Requires) && areNames(u.After)
}

// isTree asks each two of the paths.
func isTree(l []api.Entry) bool {
	for i, x := range l {
		names := strings.Split(x.Path, "/")
		if len(x.Path) > 120 || len(names) > 4 || !areNames(names) || len(x.Data) > 2048 {
			return false
		}
		to := string(x.Data)
		toRoot := to == "/"
		toNames := strings.Split(strings.TrimPrefix(to, "/"), "/")
		isPath := toRoot || len(to) <= 200 && strings.HasPrefix(to, "/") && len(toNames) <= 16 && areNames(toNames)
		if x.Kind != 1 && (x.Kind != 3 || !isPath) {
			return false
		}
		for _, y := range l[i+1:] {
			if x.Path >= y.Path || strings.HasPrefix(y.Path, x.Path+"/") {
				return false
			}
		}
	}
	return len(l) <= 24
}

func unitLines(first string, u api.Unit) string {
	s := fmt.Sprintf("%s %s\nrun %s\n", first, u.Name, u.Start)
	for _, x := range u.Requires {
		s += fmt.Sprintf("requires %s\n", x)
	}
	for _, x := range u.After {
		s += fmt.Sprintf("after %s\n", x)
	}
	return s
}

func plainEntries(s api.System) []api.Entry {
	var l []api.Entry
	for _, f := range s.Files {
		l = append(l, api.Entry{Path: "etc/" + f.Path, Kind: f.Kind, Data: f.Data})
	}
	text := ""
	for _, x := range s.Users {
		text += fmt.Sprintf("user %s\n", x)
	}
	for _, u := range s.Units {
		text += unitLines("unit", u)
	}
	return append(l, file("system", text+"end\n"))
}

func plainRight(s api.System) bool {
	if !isTree(s.Files) || !isTree(plainEntries(s)) || !areNames(s.Users) || len(s.Users) > 16 || len(s.Units) > 24 {
		return false
	}
	if !slices.Equal(slices.Compact(slices.Sorted(slices.Values(s.Users))), s.Users) {
		return false
	}
	ahead := map[string]bool{}
	for _, u := range s.Units {
		if !isUnit(u) || ahead[u.Name] {
			return false
		}
		for _, x := range u.Requires {
			if !ahead[x] {
				return false
			}
		}
		ahead[u.Name] = true
	}
	return true
}

func plainActs(now api.Observed, s api.System) []api.Act {
	if !plainRight(s) {
		return nil
	}
	had, nowFiles, nowUsers := map[string]bool{}, map[string]bool{}, map[string]bool{}
	for _, f := range now.Files {
		had[showFile(f)] = true
	}
	for _, f := range s.Files {
		nowFiles[f.Path] = true
	}
	for _, x := range s.Users {
		nowUsers[x] = true
	}
	k := 0
	for k < min(len(now.Running), len(s.Units)) && showUnit(now.Running[k]) == showUnit(s.Units[k]) {
		k++
	}
	var l []api.Act
	for at := len(now.Running) - 1; at >= k; at-- {
		l = append(l, stop(now.Running[at].Name))
	}
	first := len(l)
	for _, f := range now.Files {
		if !nowFiles[f.Path] {
			l = append(l, remove(f.Path))
		}
	}
	for _, x := range now.Users {
		if !nowUsers[x] {
			l = append(l, drop(x))
		}
	}
	slices.SortFunc(l[first:], func(a, b api.Act) int {
		if a.Kind != b.Kind {
			return a.Kind - b.Kind
		}
		return strings.Compare(a.Name, b.Name)
	})
	for _, f := range s.Files {
		if !had[showFile(f)] {
			l = append(l, put(f))
		}
	}
	for _, x := range s.Users {
		if !slices.Contains(now.Users, x) {
			l = append(l, user(x))
		}
	}
	for _, u := range s.Units[k:] {
		l = append(l, start(u))
	}
	return l
}

func plainMayDo(a api.Act) bool {
	noFile := showFile(a.File) == showFile(api.Entry{})
	noUnit := showUnit(a.Unit) == showUnit(api.Unit{})
	switch a.Kind {
	case 1, 3, 5:
		return isName(a.Name) && noFile && noUnit
	case 2:
		return isTree(entries(file(a.Name, ""))) && noFile && noUnit
	case 4:
		return isTree(entries(a.File)) && a.Name == a.File.Path && noUnit
	case 6:
		return isUnit(a.Unit) && a.Name == a.Unit.Name && noFile
	}
	return false
}

func plainText(l []api.Act) string {
	text := ""
	for _, a := range l {
		if !plainMayDo(a) {
			return ""
		}
		switch a.Kind {
		case 4:
			sign := map[int]string{1: "f", 3: "l"}[a.File.Kind]
			text += fmt.Sprintf("file %s %s %d\n%s", sign, a.Name, len(a.File.Data), a.File.Data)
		case 6:
			text += unitLines("start", a.Unit)
		default:
			word := map[int]string{1: "stop", 2: "remove", 3: "drop", 5: "user"}[a.Kind]
			text += fmt.Sprintf("%s %s\n", word, a.Name)
		}
	}
	if len(l) > 128 {
		return ""
	}
	return text + "end\n"
}

// matched takes a pattern off a text's beginning, if it stands there.
func matched(text *string, pattern *regexp.Regexp) []string {
	found := pattern.FindStringSubmatch(*text)
	if found != nil {
		*text = (*text)[len(found[0]):]
	}
	return found
}

// unitOf makes a unit of what a row's pattern has found.
func unitOf(found []string) api.Unit {
	u := api.Unit{Name: found[1], Start: found[2]}
	for _, x := range strings.Split(found[3]+found[5], "\n") {
		if s, ok := strings.CutPrefix(x, "requires "); ok {
			u.Requires = append(u.Requires, s)
		}
		if s, ok := strings.CutPrefix(x, "after "); ok {
			u.After = append(u.After, s)
		}
	}
	return u
}

func plainParse(text string) ([]api.Act, bool) {
	var l []api.Act
	for text != "end\n" {
		a := api.Act{}
		if found := matched(&text, nameLine); found != nil {
			a = api.Act{Kind: map[string]int{"stop": 1, "drop": 3, "user": 5}[found[1]], Name: found[2]}
		} else if found := matched(&text, pathLine); found != nil {
			a = remove(found[1])
		} else if found := matched(&text, startRow); found != nil {
			a = start(unitOf(found))
		} else if found := matched(&text, fileLine); found != nil {
			n, _ := strconv.Atoi(found[3])
			if n > len(text) {
				return nil, false
			}
			a = put(api.Entry{Path: found[2], Kind: map[string]int{"f": 1, "l": 3}[found[1]], Data: []byte(text[:n])})
			text = text[n:]
		}
		if !plainMayDo(a) {
			return nil, false
		}
		l = append(l, a)
	}
	return l, len(l) <= 128
}

func plainSystem(l []api.Entry) (api.System, bool) {
	var s api.System
	if len(l) == 0 || l[len(l)-1].Path != "system" || l[len(l)-1].Kind != 1 {
		return s, false
	}
	for _, x := range l[:len(l)-1] {
		if !strings.HasPrefix(x.Path, "etc/") {
			return api.System{}, false
		}
		s.Files = append(s.Files, api.Entry{Path: x.Path[4:], Kind: x.Kind, Data: x.Data})
	}
	text := string(l[len(l)-1].Data)
	for found := matched(&text, userRow); found != nil; found = matched(&text, userRow) {
		s.Users = append(s.Users, found[1])
	}
	for found := matched(&text, unitRow); found != nil; found = matched(&text, unitRow) {
		s.Units = append(s.Units, unitOf(found))
	}
	return s, text == "end\n" && plainRight(s)
}

func pick[T any](r *rand.Rand, of ...T) T { return of[r.IntN(len(of))] }

// chance makes systems and acts of few names, so that they have much in
// common; wrong says of how many parts one is wrong.
type chance struct {
	*rand.Rand
	names, wrong int
}

func newChance(seed uint64) chance {
	r := rand.New(rand.NewPCG(21, seed))
	return chance{r, pick(r, 2, 5, 12, 30), pick(r, 20, 200, 1<<30)}
}

func (r chance) name() string {
	if r.IntN(r.wrong) == 0 {
		return pick(r.Rand, "", ".", "..", "a b", "a/b", "a\n", "\xff", strings.Repeat("n", 37))
	}
	if r.IntN(40) == 0 {
		return pick(r.Rand, "...", "+", "-", "Z", "end", "run", "requires", strings.Repeat("n", 36))
	}
	return fmt.Sprintf("n%02d", r.IntN(r.names))
}

func (r chance) path() string {
	p := r.name()
	for r.IntN(3) == 0 {
		p += "/" + r.name()
	}
	return p
}

func (r chance) file() api.Entry {
	if r.IntN(r.wrong) == 0 {
		return pick(r.Rand, api.Entry{}, api.Entry{Path: "a", Kind: 2}, link("a", "b"), file("a", strings.Repeat("x", 2049)))
	}
	if r.IntN(4) == 0 {
		return link(r.path(), pick(r.Rand, "/", "/a", "/a/b"))
	}
	return file(r.path(), pick(r.Rand, "", "x", "y", "\n", "end\n", "stop a\nend\n", "\x00\xff"))
}

func (r chance) start() string {
	if r.IntN(r.wrong) == 0 {
		return pick(r.Rand, "", "\n", "x\x7f", "\x1fx", "\x80", strings.Repeat("x", 121))
	}
	return pick(r.Rand, "x", "x", "x", "y", " ", "~ ~", "run x", strings.Repeat("x", 120))
}

func (r chance) users() []string {
	var l []string
	for range r.IntN(r.names) {
		l = append(l, r.name())
	}
	if r.IntN(r.wrong) == 0 {
		return l
	}
	slices.Sort(l)
	return slices.Compact(l)
}

func (r chance) files() []api.Entry {
	var l []api.Entry
	for range r.IntN(r.names) {
		l = append(l, r.file())
	}
	if r.IntN(r.wrong) == 0 {
		return l
	}
	slices.SortStableFunc(l, func(a, b api.Entry) int { return strings.Compare(a.Path, b.Path) })
	return slices.CompactFunc(l, func(a, b api.Entry) bool { return strings.HasPrefix(b.Path+"/", a.Path+"/") })
}

func (r chance) units() []api.Unit {
	var l []api.Unit
	for range r.IntN(r.names) {
		u := api.Unit{Name: r.name(), Start: r.start()}
		for r.IntN(3) == 0 {
			u.After = append(u.After, r.name())
		}
		for r.IntN(3) == 0 && len(l) > 0 {
			u.Requires = append(u.Requires, l[r.IntN(len(l))].Name)
		}
		if r.IntN(r.wrong) == 0 {
			u.Requires = append(u.Requires, r.name())
		}
		if r.IntN(r.wrong) == 0 || !slices.ContainsFunc(l, func(v api.Unit) bool { return v.Name == u.Name }) {
			l = append(l, u)
		}
	}
	return l
}

func (r chance) system() api.System {
	return api.System{Files: r.files(), Users: r.users(), Units: r.units()}
}

// other keeps some of a system's parts, its first units among them.
func (r chance) other(s api.System) api.System {
	o := r.system()
	if r.IntN(2) == 0 {
		o.Units = append(slices.Clone(s.Units[:r.IntN(len(s.Units)+1)]), o.Units...)
		seen := map[string]bool{}
		o.Units = slices.DeleteFunc(o.Units, func(u api.Unit) bool {
			twice := seen[u.Name]
			seen[u.Name] = true
			return twice
		})
	}
	if r.IntN(2) == 0 {
		o.Files = s.Files
	}
	if r.IntN(2) == 0 {
		o.Users = s.Users
	}
	return o
}

func (r chance) act() api.Act {
	switch r.IntN(8) {
	case 0:
		a := api.Act{Kind: r.IntN(8), Name: r.name()}
		if r.IntN(4) == 0 {
			a.File = r.file()
		}
		if r.IntN(4) == 0 {
			a.Unit = unit(r.name(), r.start())
		}
		return a
	case 1:
		return remove(r.path())
	case 2, 3:
		return put(r.file())
	case 4, 5:
		return start(api.Unit{Name: r.name(), Start: r.start(), Requires: r.users(), After: r.users()})
	}
	return api.Act{Kind: pick(r.Rand, 1, 3, 5), Name: r.name()}
}

// alter changes a text in a place or two.
func (r chance) alter(text string) string {
	b := []byte(text)
	for range 1 + r.IntN(2) {
		at := r.IntN(len(b) + 1)
		more := r.IntN(len(b) - at + 1)
		switch r.IntN(6) {
		case 0:
			b = slices.Insert(b, at, pick(r.Rand, []byte("user a\nend x0/ \xff")...))
		case 1:
			b = slices.Delete(b, at, min(at+1, len(b)))
		case 2:
			b = slices.Delete(b, at, at+min(more, 30))
		case 3:
			b = slices.Insert(b, at, slices.Clone(b[at:at+min(more, 30)])...)
		case 4:
			b = slices.Insert(b, at, []byte(pick(r.Rand, "end\n", "user a\n", "run x\n", "requires n00\n", "after n01\n", "0", "1"))...)
		case 5:
			if at < len(b) {
				b[at] = byte(r.IntN(256))
			}
		}
	}
	return string(b)
}

func mustParseAsTheModel(t *testing.T, text string) bool {
	t.Helper()
	want, ok := plainParse(text)
	l, e := activate.Parse(text)
	switch {
	case !ok && (e != api.ErrStep || len(l) != 0):
		t.Fatalf("Parse of %q: %d, %s; must be %d", text, e, showActs(l), api.ErrStep)
	case ok && (e != api.OK || showActs(l) != showActs(want)):
		t.Fatalf("Parse of %q: %d, %s; must be %s", text, e, showActs(l), showActs(want))
	case ok && activate.Text(l) != text:
		t.Fatalf("Text of what Parse tells of %q: %q", text, activate.Text(l))
	}
	return ok
}

func TestV3V5ScriptsAgainstTheModel(t *testing.T) {
	written, parsed, altered := 0, 0, 0
	for seed := range uint64(3000) {
		r := newChance(seed)
		var l []api.Act
		for range r.IntN(pick(r.Rand, 3, 10, 140)) {
			l = append(l, r.act())
		}
		text, want := activate.Text(l), plainText(l)
		if text != want {
			t.Fatalf("Text of %s: %q; must be %q", showActs(l), text, want)
		}
		if text == "" {
			continue
		}
		written++
		if again, e := activate.Parse(text); e != api.OK || showActs(again) != showActs(l) {
			t.Fatalf("Parse of %q: %d, %s; must be %s", text, e, showActs(again), showActs(l))
		}
		for range 30 {
			if mustParseAsTheModel(t, r.alter(text)) {
				parsed++
			} else {
				altered++
			}
		}
	}
	if written < 1000 || parsed < 1000 || altered < 10000 {
		t.Errorf("%d written, %d altered ones parsed, %d not", written, parsed, altered)
	}
}

func mustReadAsTheModel(t *testing.T, l []api.Entry) bool {
	t.Helper()
	want, ok := plainSystem(l)
	s, e := activate.System(l)
	switch {
	case !ok && (e != api.ErrTree || showSystem(s) != showSystem(api.System{})):
		t.Fatalf("System of %s: %d, %s; must be %d", showEntries(l), e, showSystem(s), api.ErrTree)
	case ok && (e != api.OK || showSystem(s) != showSystem(want)):
		t.Fatalf("System of %s: %d, %s; must be %s", showEntries(l), e, showSystem(s), showSystem(want))
	case ok && showEntries(activate.Entries(s)) != showEntries(l):
		t.Fatalf("Entries of the system of %s: %s", showEntries(l), showEntries(activate.Entries(s)))
	}
	return ok
}

func TestV1V5SystemsAgainstTheModel(t *testing.T) {
	right, wrong, read, altered := 0, 0, 0, 0
	for seed := range uint64(3000) {
		r := newChance(seed)
		s := r.system()
		want := plainRight(s)
		if activate.Right(s) != want {
			t.Fatalf("Right of %s: %v", showSystem(s), !want)
		}
		l := activate.Entries(s)
		if !want {
			wrong++
			mustBeWrong(t, "of the model", s)
			continue
		}
		right++
		if showEntries(l) != showEntries(plainEntries(s)) {
			t.Fatalf("Entries of %s: %s", showSystem(s), showEntries(l))
		}
		mustBeRight(t, "of the model", s)
		for range 20 {
			other := slices.Clone(l)
			if at := r.IntN(len(other)); r.IntN(3) == 0 && at < len(other)-1 {
				other[at] = pick(r.Rand, api.Entry{Path: r.alter(other[at].Path), Kind: other[at].Kind}, r.file(), link(other[at].Path, "/z"))
			} else {
				other[len(l)-1] = file("system", r.alter(string(other[len(l)-1].Data)))
			}
			if mustReadAsTheModel(t, other) {
				read++
			} else {
				altered++
			}
		}
	}
	if right < 800 || wrong < 800 || read < 500 || altered < 5000 {
		t.Errorf("%d right, %d wrong; altered entries: %d read, %d not", right, wrong, read, altered)
	}
}

func TestV2ActsAgainstTheModel(t *testing.T) {
	steps := 0
	for seed := range uint64(4000) {
		r := newChance(seed)
		was := r.system()
		s := r.other(was)
		l := activate.Acts(observed(was), s)
		if want := plainActs(observed(was), s); showActs(l) != showActs(want) {
			t.Fatalf("Acts of %s and %s: %s; must be %s", showSystem(was), showSystem(s), showActs(l), showActs(want))
		}
		if activate.Meets(observed(was), s) != (showSystem(was) == showSystem(s)) {
			t.Fatalf("Meets of %s and %s: %v", showSystem(was), showSystem(s), showSystem(was) != showSystem(s))
		}
		if plainRight(was) && (activate.Text(l) != plainText(l) || activate.Text(l) == "") {
			t.Fatalf("the script of %s: %q", showActs(l), activate.Text(l))
		}
		steps += len(l)
	}
	if steps < 10000 {
		t.Errorf("%d steps", steps)
	}
}

// twins are a machine, and another one that is told the model's acts one by one.
type twins struct {
	*testing.T
	chance
	one, other *machine.Machine
}

func (w twins) plan() int {
	var plan []bool
	fails := 0
	for range w.IntN(20) {
		plan = append(plan, w.IntN(3) == 0)
		if plan[len(plan)-1] {
			fails++
		}
	}
	w.one.Plan(plan)
	w.other.Plan(plan)
	return fails
}

func (w twins) to(s api.System) api.Errno {
	w.Helper()
	was := w.one.Observe()
	want := api.OK
	if !plainRight(s) {
		want = api.ErrStep
	}
	for _, a := range plainActs(was, s) {
		if want = w.other.Do(a); want != api.OK {
			break
		}
	}
	e := activate.To(w.one, s)
	now, must := showObserved(w.one.Observe()), showObserved(w.other.Observe())
	if e != want || now != must {
		w.Fatalf("To %s from %s: %d, %s; must be %d, %s", showSystem(s), showObserved(was), e, now, want, must)
	}
	if (e == api.OK) != activate.Meets(w.one.Observe(), s) {
		w.Fatalf("To %s from %s: %d, and %s", showSystem(s), showObserved(was), e, now)
	}
	return e
}

// From whatever a machine is, whatever fails, To leads to the system at last:
// no try is taken but by what is stopped and started (V4).
func TestV4ToAgainstTheModel(t *testing.T) {
	count := map[api.Errno]int{}
	for seed := range uint64(600) {
		r := newChance(seed)
		w := twins{t, r, machine.New(), machine.New()}
		var s api.System
		for range 15 {
			for range r.IntN(3) * r.IntN(20) {
				a := r.act()
				if e, f := w.one.Do(a), w.other.Do(a); e != f {
					t.Fatalf("Do(%s): %d and %d", showAct(a), e, f)
				}
			}
			s = r.other(s)
			fails := w.plan()
			e := w.to(s)
			count[e]++
			for ; e == api.ErrService; e = w.to(s) {
				if fails--; fails < 0 {
					t.Fatalf("To %s fails without a plan", showSystem(s))
				}
				if r.IntN(4) == 0 {
					s = r.other(s)
				}
			}
		}
	}
	if count[api.OK] < 1000 || count[api.ErrService] < 500 || count[api.ErrStep] < 500 || len(count) != 3 {
		t.Error("just so many answers:", count)
	}
}

func FuzzParse(f *testing.F) {
	f.Add("stop v\ndrop a\nuser b\nstart w\nrun x\nend\n")
	f.Add("remove a/b\nfile f a 4\nend\nfile l b 2\n/zstart a\nrun  \nrequires b\nrequires c\nafter d\nend\n")
	f.Add("file f a 0\nfile f a 00\nend\n")
	f.Fuzz(func(t *testing.T, text string) { mustParseAsTheModel(t, text) })
}

func FuzzSystem(f *testing.F) {
	f.Add("etc/a", []byte("x"), "user a\nunit u\nrun x\nunit v\nrun y\nrequires u\nafter w\nend\n")
	f.Add("etc", []byte(""), "end\n")
	f.Fuzz(func(t *testing.T, path string, data []byte, text string) {
		for _, l := range [][]api.Entry{
			entries(file("system", text)),
			entries(api.Entry{Path: path, Kind: 1 + len(data)%3, Data: data}, file("system", text)),
			entries(file("etc/"+path, string(data)), file("system", text)),
		} {
			if mustReadAsTheModel(t, l) && !isTree(l) {
				t.Errorf("%s has a system, and is no tree", showEntries(l))
			}
		}
	})
}
