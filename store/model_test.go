package store_test

import (
	"fmt"
	"hash/fnv"
	"maps"
	"math/rand/v2"
	"regexp"
	"slices"
	"strings"
	"testing"

	"bootjack/alloc"
	"bootjack/api"
	"bootjack/fs"
	"bootjack/store"
)

// plainBytes are a tree's bytes by the words of chapter 8.
func plainBytes(l []api.Entry) string {
	out := "tree\n"
	for _, x := range l {
		out += fmt.Sprintf("%c %s %d\n%s\n", " f?l"[x.Kind&3], x.Path, len(x.Data), x.Data)
	}
	return out + "end\n"
}

func plainPath(name string, l []api.Entry) string {
	h := fnv.New64a()
	h.Write([]byte(plainBytes(l)))
	return fmt.Sprintf("/store/%016x-%s", h.Sum64(), name)
}

// blocksOf tells how many blocks so many bytes take, by the words of chapter 5.
func blocksOf(size int) int {
	n := (size + 127) / 128
	if n > 8 {
		n++
	}
	if n > 73 {
		n += 1 + (n-73+63)/64
	}
	return n
}

// plain is a store as a plain list: the slots of its directory, of which some are empty, and the trees.
type plain struct {
	slots []string
	trees map[string][]api.Entry
}

func (p *plain) clone() *plain { return &plain{slices.Clone(p.slots), maps.Clone(p.trees)} }

func (p *plain) paths() []string { return slices.Sorted(maps.Keys(p.trees)) }

func (p *plain) put(path string, l []api.Entry) {
	p.trees[path] = l
	if k := slices.Index(p.slots, ""); k >= 0 {
		p.slots[k] = path
		return
	}
	p.slots = append(p.slots, path)
}

func (p *plain) sweep(path string) {
	delete(p.trees, path)
	p.slots[slices.Index(p.slots, path)] = ""
	for n := len(p.slots); n > 0 && p.slots[n-1] == ""; n-- {
		p.slots = p.slots[:n-1]
	}
}

var refWords = regexp.MustCompile(`/store/[0-9a-f]{16}-[a-zA-Z0-9._+-]{1,19}`)

func (p *plain) refs(path string) []string {
	var out []string
	for _, to := range refWords.FindAllString(plainBytes(p.trees[path]), -1) {
		if p.trees[to] != nil && to != path && !slices.Contains(out, to) {
			out = append(out, to)
		}
	}
	slices.Sort(out)
	return out
}

func (p *plain) reach(roots []string) []string {
	var out []string
	for todo := slices.Clone(roots); len(todo) > 0; todo = todo[1:] {
		if !slices.Contains(out, todo[0]) {
			out = append(out, todo[0])
			todo = append(todo, p.refs(todo[0])...)
		}
	}
	slices.Sort(out)
	return out
}

// needs tells how many blocks and inodes a tree takes.
func needs(l []api.Entry) (int, int) {
	blocks, names := 0, map[string]int{"": 0} // how many names stand in each directory
	for _, x := range l {
		blocks += blocksOf(len(x.Data))
		dir := ""
		for part := range strings.SplitSeq(x.Path, "/") {
			next := dir + "/" + part
			if _, ok := names[next]; !ok {
				names[dir]++
				names[next] = 0
			}
			dir = next
		}
	}
	for _, n := range names {
		blocks += blocksOf(40 * n)
	}
	return blocks, len(names)
}

// free tells how many blocks and inodes are free on a disk of n sectors with nothing but this store.
func (p *plain) free(n int) (int, int) {
	y, _ := alloc.Lay(n)
	blocks, inodes := n-y.Data-blocksOf(80)-blocksOf(40*len(p.slots)), y.Inodes-4
	for _, l := range p.trees {
		b, i := needs(l)
		blocks, inodes = blocks-b, inodes-i
	}
	return blocks, inodes
}

// lacks tells whether there is too little room for a tree more.
func (p *plain) lacks(n int, path string, l []api.Entry) bool {
	q := p.clone()
	q.put(path, l)
	b, i := q.free(n)
	return b < 0 || i < 0
}

// tooLong tells whether a file of the tree may be too much for the log of a disk of n sectors: all its blocks, and some twelve sectors that are changed with it.
func tooLong(n int, l []api.Entry) bool {
	room := max(n/8, 16) - 1
	return slices.ContainsFunc(l, func(x api.Entry) bool {
		m := blocksOf(len(x.Data)) + 12
		return m+m/60+1 > room
	})
}

// pair is a store, and what it must be.
type pair struct {
	*place
	now  *plain
	rng  *rand.Rand
	told map[api.Errno]int
}

func newPair(t *testing.T, n int, seed uint64) *pair {
	t.Helper()
	return &pair{made(t, n), &plain{trees: map[string][]api.Entry{}}, rand.New(rand.NewPCG(seed, uint64(n))), map[api.Errno]int{}}
}

func (q *pair) pick(l []string) string {
	if len(l) == 0 {
		return plainPath("none", nil)
	}
	return l[q.rng.IntN(len(l))]
}

func (q *pair) data() string {
	switch q.rng.IntN(5) {
	case 0:
		return q.pick(q.now.paths())
	case 1:
		return "x" + q.pick(q.now.paths()) + "/y " + q.pick(q.now.paths())
	case 2:
		return strings.Repeat(string(rune('a'+q.rng.IntN(26))), min(q.rng.IntN(2049), q.rng.IntN(2049)))
	}
	return fmt.Sprint(q.rng.IntN(3))
}

// tree gives one of a few entries.
func (q *pair) tree() []api.Entry {
	l := []api.Entry{}
	for _, path := range []string{"a+", "a-b/c", "a/b", "a/c/d", "a/c/e/f", "a0", "b", "c/d/e/f"} {
		switch q.rng.IntN(9) {
		case 0, 1:
			l = append(l, file(path, q.data()))
		case 2:
			l = append(l, link(path, q.pick(q.now.paths())))
		}
	}
	return l
}

func (q *pair) add() {
	q.t.Helper()
	name, l := q.pick([]string{"a", "b", "system"}), q.tree()
	path := plainPath(name, l)
	got, e := store.Add(q.FS, name, l)
	q.told[e]++
	switch {
	case e == api.ErrNoSpace && q.now.trees[path] == nil && q.now.lacks(q.d.Len(), path, l):
	case e == api.ErrLogFull && q.now.trees[path] == nil && tooLong(q.d.Len(), l):
	case e == api.OK && got == path && (q.now.trees[path] != nil || !q.now.lacks(q.d.Len(), path, l)):
		if q.now.trees[path] == nil {
			q.now.put(path, l)
		}
		return
	default:
		q.t.Fatalf("Add: %s, %d", got, e)
	}
	if got != "" {
		q.t.Fatalf("Add: %s beside %d", got, e)
	}
}

// roots gives some paths, now and then one that is not in the store.
func (q *pair) roots() ([]string, bool) {
	var l []string
	for range q.rng.IntN(4) {
		l = append(l, q.pick(q.now.paths()))
	}
	if q.rng.IntN(8) == 0 {
		l = append(l, plainPath("not", nil))
	}
	return l, !slices.ContainsFunc(l, func(s string) bool { return q.now.trees[s] == nil })
}

func (q *pair) collect() {
	q.t.Helper()
	roots, ok := q.roots()
	got, e := store.Collect(q.FS, roots)
	q.told[e]++
	if !ok {
		if e != api.ErrStore || len(got) != 0 {
			q.t.Fatalf("Collect: %q, %d", got, e)
		}
		return
	}
	stay := q.now.reach(roots)
	want := slices.DeleteFunc(q.now.paths(), func(s string) bool { return slices.Contains(stay, s) })
	if e != api.OK || !slices.Equal(got, want) {
		q.t.Fatalf("Collect: %q, %d, not %q", got, e, want)
	}
	for _, path := range want {
		q.now.sweep(path)
	}
}

// hold asks for all that can be asked.
func (q *pair) hold() {
	q.t.Helper()
	q.mustHold()
	q.mustList(q.now.paths()...)
	for path, l := range q.now.trees {
		q.mustGet(path, l)
		q.mustRefs(path, q.now.refs(path)...)
	}
	if roots, ok := q.roots(); ok {
		q.mustReach(roots, q.now.reach(roots)...)
	}
	b, i, e := q.Free()
	if x, y := q.now.free(q.d.Len()); e != api.OK || b != x || i != y {
		q.t.Fatal("free are", b, i, "not", x, y)
	}
}

func (q *pair) step() {
	q.t.Helper()
	switch q.rng.IntN(12) {
	case 0:
		q.place = q.anew()
	case 1, 2:
		q.collect()
	case 3:
		mustBe(q.t, "Clean", store.Clean(q.FS), api.OK)
	default:
		q.add()
	}
}

// C2 to C5 hold for scripts of calls on small disks, where room is short, and on greater ones.
func TestC5ScriptsAgainstPlainLists(t *testing.T) {
	told := map[api.Errno]int{}
	for _, n := range []int{64, 90, 200, 400, 1024} {
		for seed := range uint64(8) {
			q := newPair(t, n, seed)
			for range 60 {
				q.step()
				q.hold()
			}
			for e, k := range q.told {
				told[e] += k
			}
		}
	}
	for _, e := range []api.Errno{api.OK, api.ErrStore, api.ErrNoSpace, api.ErrLogFull} {
		if told[e] < 10 {
			t.Fatal("the scripts come by too little of", e, told)
		}
	}
}

// C5: power fails in scripts, again and again: behind it each path is there whole, or not at all, and those that no call has put in or swept are as they were.
func TestC5WherePowerFails(t *testing.T) {
	ahead, behind, twice := 0, 0, 0
	for seed := range uint64(120) {
		q := newPair(t, []int{64, 130, 400}[seed%3], seed+1000)
		for range 40 {
			if q.rng.IntN(3) > 0 {
				q.step()
				continue
			}
			n := len(q.now.trees)
			if !q.fail(&twice) {
				continue
			}
			if len(q.now.trees) == n {
				ahead++
			} else {
				behind++
			}
			q.hold()
		}
	}
	if ahead < 50 || behind < 50 || twice < 50 {
		t.Fatal("power fails too much alike", ahead, behind, twice)
	}
}

// fail binds power to fail in an Add or a Collect, and mounts and cleans anew where it has failed.
func (q *pair) fail(twice *int) bool {
	q.t.Helper()
	may := q.now.clone() // with all that the call may put in
	stay := q.now.paths()
	name, l := q.pick([]string{"a", "b", "system"}), q.tree()
	roots, ok := q.roots()
	var e api.Errno
	q.d.Arm(q.rng.IntN(60), q.rng.Uint64()|q.rng.Uint64())
	if q.rng.IntN(3) > 0 || !ok {
		path := plainPath(name, l)
		if may.trees[path] == nil {
			may.put(path, l)
		}
		_, e = store.Add(q.FS, name, l)
	} else {
		stay = q.now.reach(roots)
		_, e = store.Collect(q.FS, roots)
	}
	if e != api.ErrPower {
		q.d.Arm(-1, 0)
	} else {
		q.place = q.mountAtLast(twice)
	}
	q.settle(may, stay)
	return e == api.ErrPower
}

// settle tells what is in the store by what may be in it, and what stays in it.
func (q *pair) settle(may *plain, stay []string) {
	q.t.Helper()
	all, e := store.List(q.FS)
	mustBe(q.t, "List", e, api.OK)
	for _, path := range stay {
		if !slices.Contains(all, path) {
			q.t.Fatal(path, "is lost")
		}
	}
	for _, path := range all {
		if may.trees[path] == nil {
			q.t.Fatal(path, "was never put in")
		}
	}
	for _, path := range may.paths() {
		if !slices.Contains(all, path) {
			may.sweep(path)
		}
	}
	q.now = may
}

// mountAtLast starts a disk, in whose Mounts and Cleans power fails a few times.
func (q *pair) mountAtLast(twice *int) *place {
	q.t.Helper()
	for k := range 4 {
		mustBe(q.t, "Start", q.d.Start(), api.OK)
		if k < 3 {
			q.d.Arm(q.rng.IntN(40), q.rng.Uint64())
		}
		f, e := fs.Mount(q.d)
		if e == api.OK {
			mustBe(q.t, "Check", f.Check(), api.OK)
			e = store.Clean(f)
		}
		if e == api.OK {
			q.d.Arm(-1, 0)
			return &place{f, q.t, q.d}
		}
		mustBe(q.t, "Mount or Clean", e, api.ErrPower)
		*twice++
	}
	q.t.Fatal("power fails, though nobody bound it to")
	return nil
}

// keeps gives ways in which loose writes stay.
func keeps() []uint64 {
	return []uint64{0, ^uint64(0), 0x5555555555555555, 0xaaaaaaaaaaaaaaaa, 0xf0f0f0f0f0f0f0f0, 1, 1 << 63, 0x0123456789abcdef}
}

// eachDeed does a call with a loss of power at each of its deeds, and hands on what is there behind the next Mount.
func eachDeed(first *place, call func(f *fs.FS) api.Errno, look func(p *place)) {
	first.t.Helper()
	for after := 0; ; after++ {
		for _, keep := range keeps() {
			p := first.clone()
			p.d.Arm(after, keep)
			e := call(p.FS)
			if e == api.OK {
				return
			}
			mustBe(p.t, "the call", e, api.ErrPower)
			mustBe(p.t, "the call again", call(p.FS), api.ErrOff)
			p = p.anew()
			mustBe(p.t, "Check", p.Check(), api.OK)
			look(p)
		}
	}
}

// C5: an Add with a loss of power at each of its deeds. What is left of it is in the way of nothing.
func TestC5AddAtEachDeed(t *testing.T) {
	first := made(t, 200)
	a := first.add("a", of("1"))
	ahead := first.shown()
	whole := first.clone()
	b := whole.add("b", forest())
	behind := whole.shown()
	got := map[string]int{}
	add := func(f *fs.FS) api.Errno {
		path, e := store.Add(f, "b", forest())
		if e != api.OK && path != "" {
			t.Errorf("Add: %q beside %d", path, e)
		}
		return e
	}
	eachDeed(first, add, func(p *place) {
		p.mustGet(a, of("1"))
		q := p.clone()
		mustBe(t, "Clean", store.Clean(p.FS), api.OK)
		p.mustHold()
		got[p.shown()]++
		for _, x := range []*place{p, q} {
			x.add("b", forest())
			x.mustShow(behind)
			x.mustGet(b, forest())
		}
	})
	if got[ahead] < 50 || got[behind] == 0 || len(got) != 2 {
		t.Error(got[ahead], got[behind], len(got))
	}
}

// C5: a Collect with a loss of power at each of its deeds, and a Clean behind it that fails as well.
func TestC5CollectAtEachDeed(t *testing.T) {
	first := made(t, 200)
	a := first.add("a", of("1"))
	b, c, d := first.add("b", forest()), first.add("c", of(a)), first.add("d", []api.Entry{file("s/t/u", strings.Repeat("z", 600))})
	trees := map[string][]api.Entry{a: of("1"), b: forest(), c: of(a), d: {file("s/t/u", strings.Repeat("z", 600))}}
	got := map[int]int{}
	collect := func(f *fs.FS) api.Errno {
		l, e := store.Collect(f, []string{c})
		if e != api.OK && len(l) > 0 {
			t.Errorf("Collect: %q beside %d", l, e)
		}
		return e
	}
	eachDeed(first, collect, func(p *place) {
		p.mustGet(a, trees[a])
		p.mustGet(c, trees[c])
		all, _ := store.List(p.FS)
		for _, path := range all {
			p.mustGet(path, trees[path])
		}
		got[len(all)]++
		q := p.clone()
		q.d.Arm(got[len(all)]%9, 0x3333333333333333)
		if e := store.Clean(q.FS); e != api.OK {
			mustBe(t, "Clean", e, api.ErrPower)
			q = q.anew()
		}
		q.d.Arm(-1, 0)
		mustBe(t, "Clean", store.Clean(q.FS), api.OK)
		q.mustHold()
		q.mustList(all...)
		p.mustSweep([]string{c}, slices.DeleteFunc(all, func(s string) bool { return s == a || s == c })...)
		p.mustList(a, c)
	})
	if got[4] == 0 || got[3] == 0 || got[2] == 0 || len(got) != 3 {
		t.Error(got)
	}
}
