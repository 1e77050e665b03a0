package dirs_test

import (
	"fmt"
	"math/rand/v2"
	"slices"
	"strings"
	"testing"

	"bootjack/api"
)

// thing is an inode as the chapter's words say it: a directory's slots, or where a link leads.
type thing struct {
	kind, links int
	slots       []api.Dirent // an empty one is without an inode
	to          string
}

// find tells in which slot a name stands, or -1.
func (x *thing) find(name string) int {
	return slices.IndexFunc(x.slots, func(d api.Dirent) bool { return d.Inode != 0 && d.Name == name })
}

func (x *thing) insert(d api.Dirent) {
	k := slices.Index(x.slots, api.Dirent{})
	if k < 0 {
		x.slots = append(x.slots, d)
		return
	}
	x.slots[k] = d
}

func (x *thing) delete(k int) {
	x.slots[k] = api.Dirent{}
	for n := len(x.slots); n > 0 && x.slots[n-1].Inode == 0; n-- {
		x.slots = x.slots[:n-1]
	}
}

func (x *thing) names() []api.Dirent {
	var out []api.Dirent
	for _, d := range x.slots {
		if d.Inode != 0 {
			out = append(out, d)
		}
	}
	slices.SortFunc(out, func(a, b api.Dirent) int { return strings.Compare(a.Name, b.Name) })
	return out
}

// things is all inodes that are in use.
type things map[int]*thing

func (p things) clone() things {
	out := things{}
	for i, x := range p {
		out[i] = &thing{x.kind, x.links, slices.Clone(x.slots), x.to}
	}
	return out
}

func (p things) lookup(dir int, name string) (int, api.Errno) {
	x := p[dir]
	if x == nil {
		return 0, api.ErrInode
	}
	if x.kind != api.KindDir {
		return 0, api.ErrNotDir
	}
	if !isName(name) {
		return 0, api.ErrFileName
	}
	if k := x.find(name); k >= 0 {
		return x.slots[k].Inode, api.OK
	}
	return 0, api.ErrNoEntry
}

// from goes on from an inode by these names, when so many links were gone after.
func (p things) from(at int, names []string, follow bool, links int) (int, api.Errno) {
	if len(names) == 0 {
		return at, api.OK
	}
	i, e := p.lookup(at, names[0])
	if e != api.OK {
		return 0, e
	}
	if p[i].kind != api.KindLink || len(names) == 1 && !follow {
		return p.from(i, names[1:], follow, links)
	}
	led, ok := pathOf(p[i].to)
	if !ok {
		return 0, api.ErrPathName
	}
	if links == 8 {
		return 0, api.ErrLinks
	}
	return p.from(1, slices.Concat(led, names[1:]), follow, links+1)
}

func (p things) walk(path string, follow bool) (int, api.Errno) {
	names, ok := pathOf(path)
	if !ok {
		return 0, api.ErrPathName
	}
	return p.from(1, names, follow, 0)
}

func (p things) parent(path string) (int, string, api.Errno) {
	names, ok := pathOf(path)
	if !ok || len(names) == 0 {
		return 0, "", api.ErrPathName
	}
	i, e := p.from(1, names[:len(names)-1], true, 0)
	if e != api.OK {
		return 0, "", e
	}
	if p[i] == nil { // the root, freed by its last name
		return 0, "", api.ErrInode
	}
	if p[i].kind != api.KindDir {
		return 0, "", api.ErrNotDir
	}
	return i, names[len(names)-1], api.OK
}

// pair is directories and what they must be: behind the last commit, and by now.
type pair struct {
	*place
	safe, now things
	rng       *rand.Rand
	told      map[api.Errno]int
}

func newPair(t *testing.T, n int, seed uint64) *pair {
	first := things{1: {kind: api.KindDir}}
	return &pair{made(t, n), first, first.clone(), rand.New(rand.NewPCG(seed, uint64(n))), map[api.Errno]int{}}
}

func (q *pair) drop() {
	q.s.Log().Drop()
	q.now = q.safe.clone()
}

func (q *pair) done() {
	q.t.Helper()
	q.commit()
	q.safe = q.now.clone()
}

// name gives one of few, so that they meet; now and then none.
func (q *pair) name() string {
	if q.rng.IntN(30) == 0 {
		return []string{"", ".", "..", "a/b", "/a", "é"}[q.rng.IntN(6)]
	}
	return []string{"a", "b", "c", "d", "E", "f.g", strings.Repeat("h", 36), "i-", "j+k", "l_"}[q.rng.IntN(10)]
}

func (q *pair) path() string {
	s := ""
	for range q.rng.IntN(6) {
		s += "/" + q.name()
	}
	if s == "" && q.rng.IntN(4) > 0 {
		return "/"
	}
	return s
}

// dir gives a directory, or now and then any number.
func (q *pair) dir() int {
	for range 20 {
		i := q.rng.IntN(q.s.Layout().Inodes + 1)
		if x := q.now[i]; x != nil && x.kind == api.KindDir || q.rng.IntN(40) == 0 {
			return i
		}
	}
	return 1
}

// settle takes what a call that changes something has answered where nothing stands against it.
func (q *pair) settle(what string, e api.Errno, staged int, do func()) {
	q.t.Helper()
	q.told[e]++
	switch {
	case e == api.ErrNoSpace:
		if n, _ := q.s.Blocks(); n > 6 {
			q.t.Fatalf("%s: no space, with %d blocks left", what, n)
		}
		q.drop()
	case e == api.ErrLogFull:
		if room := q.s.Log().Len(); staged+12 < room {
			q.t.Fatalf("%s: the log is full, with %d staged of %d", what, staged, room)
		}
		q.drop()
	default:
		mustBe(q.t, what, e, api.OK)
		do()
	}
}

// create makes an inode, and gives it its first name.
func (q *pair) create(dir int, name string) {
	q.t.Helper()
	if _, e := q.now.lookup(dir, name); e != api.ErrNoEntry {
		return
	}
	x, staged := &thing{kind: 1 + q.rng.IntN(3)}, q.s.Log().Staged()
	i, e := q.x.New(x.kind)
	if e == api.OK && x.kind == api.KindLink {
		x.to = q.path()
		e = q.x.Write(i, 0, []byte(x.to))
	}
	if e == api.ErrNoSpace && len(q.now)+1 == q.s.Layout().Inodes {
		q.drop()
		return
	}
	q.settle("New", e, staged, func() { q.now[i] = x })
	if e == api.OK {
		q.insert(dir, name, i)
	}
	if q.now[i] == x && x.links == 0 { // nothing without a name is left
		q.drop()
	}
}

func (q *pair) insert(dir int, name string, node int) {
	q.t.Helper()
	staged := q.s.Log().Staged()
	e := q.d.Insert(dir, name, node)
	_, want := q.now.lookup(dir, name)
	switch {
	case want == api.OK:
		want = api.ErrExists
	case want == api.ErrNoEntry && q.now[node] == nil:
		want = api.ErrInode
	case want == api.ErrNoEntry:
		q.settle("Insert", e, staged, func() {
			q.now[node].links++
			q.now[dir].insert(api.Dirent{Name: name, Inode: node})
		})
		return
	}
	q.told[e]++
	mustBe(q.t, "Insert", e, want)
}

func (q *pair) delete(dir int, name string) {
	q.t.Helper()
	i, want := q.now.lookup(dir, name)
	if want == api.OK && q.now[i].links == 1 && len(q.now[i].slots) > 0 {
		return // what is in a directory would have names that lead from nowhere
	}
	staged := q.s.Log().Staged()
	e := q.d.Delete(dir, name)
	if want != api.OK {
		q.told[e]++
		mustBe(q.t, "Delete", e, want)
		return
	}
	q.settle("Delete", e, staged, func() {
		q.now[dir].delete(q.now[dir].find(name))
		if q.now[i].links--; q.now[i].links == 0 {
			delete(q.now, i)
		}
	})
}

// step does one call to both.
func (q *pair) step() {
	q.t.Helper()
	dir, name := q.dir(), q.name()
	switch k := q.rng.IntN(40); {
	case k == 0:
		q.drop()
	case k < 5:
		q.done()
	case k < 20:
		q.create(dir, name)
	case k < 28:
		q.insert(dir, name, q.rng.IntN(12))
	default:
		if x := q.now[dir]; x != nil && len(x.slots) > 0 && q.rng.IntN(4) > 0 {
			name = x.slots[q.rng.IntN(len(x.slots))].Name
		}
		q.delete(dir, name)
	}
}

// hold asks for all that can be asked, and reads the bytes themselves.
func (q *pair) hold() {
	q.t.Helper()
	count := map[int]int{}
	for i := range q.s.Layout().Inodes {
		x := q.now[i]
		if x == nil {
			q.mustNotBeInUse(i)
			continue
		}
		q.mustHaveLinks(i, x.links)
		if x.kind != api.KindDir {
			continue
		}
		q.mustHaveSlots(i, x.slots...)
		q.mustList(i, x.names()...)
		for _, d := range x.names() {
			count[d.Inode]++
		}
	}
	for i, x := range q.now {
		if count[i] != x.links {
			q.t.Fatalf("%d names lead to %d, which has %d links", count[i], i, x.links)
		}
	}
	for range 8 {
		q.ask()
	}
}

// ask holds what paths lead to against the plain things.
func (q *pair) ask() {
	q.t.Helper()
	path, follow := q.path(), q.rng.IntN(2) == 0
	i, e := q.now.walk(path, follow)
	q.mustWalk(path, follow, i, e)
	q.told[e]++
	i, s, e := q.now.parent(path)
	q.mustBeParent(path, i, s, e)
	dir, name := q.rng.IntN(q.s.Layout().Inodes), q.name()
	i, e = q.now.lookup(dir, name)
	q.mustLookup(dir, name, i, e)
}

// R2 to R4 hold for scripts of calls on small disks, where room is short, and on greater ones.
func TestR4ScriptsAgainstPlainThings(t *testing.T) {
	told := map[api.Errno]int{}
	for _, n := range []int{64, 100, 300, 1024} {
		for seed := range uint64(15) {
			q := newPair(t, n, seed)
			for range 150 {
				q.step()
				q.hold()
			}
			for e, k := range q.told {
				told[e] += k
			}
		}
	}
	for _, e := range []api.Errno{api.OK, api.ErrPathName, api.ErrNoEntry, api.ErrNotDir, api.ErrLinks, api.ErrExists, api.ErrInode, api.ErrFileName, api.ErrLogFull} {
		if told[e] < 10 {
			t.Fatal("the scripts come by too little of", e, told)
		}
	}
}

// Whatever of one transaction power takes, all names are those ahead of it, or those behind it.
func TestR4WherePowerFails(t *testing.T) {
	ahead, behind := 0, 0
	for seed := range uint64(80) {
		q := newPair(t, 128, seed+100)
		for range 60 {
			q.step()
		}
		q.done()
		for k := 0; k < 9 || q.s.Log().Staged() == 0; k++ {
			q.step()
		}
		if q.crash() {
			behind++
		} else {
			ahead++
		}
		q.hold()
		for range 20 {
			q.step()
		}
		q.hold()
	}
	if ahead < 10 || behind < 10 {
		t.Fatal("power fails too much alike", ahead, behind)
	}
}

// crash lets power fail within the commit of what is staged, and tells whether that was done.
func (q *pair) crash() bool {
	q.t.Helper()
	q.k.Arm(q.rng.IntN(16), q.rng.Uint64())
	e := q.s.Log().Commit()
	if e != api.OK {
		mustBe(q.t, "Commit", e, api.ErrPower)
	} else {
		q.k.Crash(q.rng.Uint64())
	}
	mustBe(q.t, "Start", q.k.Start(), api.OK)
	q.place = opened(q.t, q.k)
	if e == api.OK || q.same(q.now) {
		q.safe = q.now.clone()
		return true
	}
	q.now = q.safe.clone()
	return false
}

// same tells whether all directories are these.
func (q *pair) same(p things) bool {
	q.t.Helper()
	for i := range q.s.Layout().Inodes {
		g, e := q.x.Get(i)
		if x := p[i]; x == nil || e != api.OK {
			if x != nil || e != api.ErrInode {
				return false
			}
			continue
		}
		if g.Kind != p[i].kind || g.Links != p[i].links {
			return false
		}
		if g.Kind == api.KindDir && string(q.bytes(i)) != string(slots(p[i].slots...)) {
			return false
		}
	}
	return true
}

// A directory of as many names as there may be, put in and taken out one by one; another one beside it stays as it is.
func TestR4ManyNames(t *testing.T) {
	p := made(t, 1024)
	p.node(api.KindDir, 2)
	p.node(api.KindFile, 3)
	p.insert(1, "d", 2)
	p.insert(1, "f", 3)
	p.commit()
	name := func(k int) string { return fmt.Sprintf("%d-%d", k*7919%409, k) }
	for k := range 409 {
		p.insert(2, name(k), 3)
		p.commit()
	}
	mustBe(t, "Insert", p.d.Insert(2, "more", 3), api.ErrBig)
	l, e := p.d.List(2)
	if len(l) != 409 || e != api.OK || !slices.IsSortedFunc(l, func(a, b api.Dirent) int { return strings.Compare(a.Name, b.Name) }) {
		t.Fatal("List", len(l), e)
	}
	p.mustHaveLinks(3, 410)
	for k := range 409 {
		p.mustLookup(2, name(k), 3, api.OK)
		p.delete(2, name(k))
		p.commit()
		p.mustLookup(2, name(k), 0, api.ErrNoEntry)
	}
	p.mustList(2)
	p.mustHaveLinks(3, 1)
	p.mustList(1, api.Dirent{Name: "d", Inode: 2}, api.Dirent{Name: "f", Inode: 3})
	if b, e := p.s.Blocks(); b != 861-1 || e != api.OK {
		t.Fatal("blocks left", b, e)
	}
}
