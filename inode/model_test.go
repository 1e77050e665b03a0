package inode_test

import (
	"bytes"
	"maps"
	"math/rand/v2"
	"slices"
	"testing"

	"bootjack/alloc"
	"bootjack/api"
	"bootjack/disk"
	"bootjack/inode"
)

// file is an inode as the chapter's words say it: a row of bytes, and which parts of it were written.
type file struct {
	kind, links int
	bytes       []byte
	parts       map[int]struct{}
}

func (f *file) clone() *file {
	return &file{f.kind, f.links, slices.Clone(f.bytes), maps.Clone(f.parts)}
}

// blocks tells how many it takes, indexes too.
func (f *file) blocks() int {
	n, index, double := len(f.parts), 0, 0
	for k := range f.parts {
		if k >= 72 {
			double = 2 // MaxFile ends within the first index of the double index
		} else if k >= 8 {
			index = 1
		}
	}
	return n + index + double
}

func (f *file) write(at int, b []byte) {
	if end := at + len(b); end > len(f.bytes) {
		f.bytes = append(f.bytes, make([]byte, end-len(f.bytes))...)
	}
	copy(f.bytes[at:], b)
	for k := at / 128; k <= (at+len(b)-1)/128; k++ {
		f.parts[k] = struct{}{}
	}
}

func (f *file) truncate(size int) {
	if size > len(f.bytes) {
		f.bytes = append(f.bytes, make([]byte, size-len(f.bytes))...)
	}
	f.bytes = f.bytes[:size:size]
	maps.DeleteFunc(f.parts, func(k int, _ struct{}) bool { return 128*k >= size })
}

// files is all inodes that are in use.
type files map[int]*file

func (p files) clone() files {
	out := files{}
	for i, f := range p {
		out[i] = f.clone()
	}
	return out
}

func (p files) blocks() int {
	n := 0
	for _, f := range p {
		n += f.blocks()
	}
	return n
}

// pair is a table and what it must be: behind the last commit, and by now.
type pair struct {
	t         *testing.T
	d         *disk.Disk
	s         *alloc.Space
	x         *inode.Table
	safe, now files
	rng       *rand.Rand
	refused   map[api.Errno]int
}

func newPair(t *testing.T, n int, seed uint64) *pair {
	d, s, x := made(t, n)
	return &pair{t, d, s, x, files{}, files{}, rand.New(rand.NewPCG(seed, uint64(n))), map[api.Errno]int{}}
}

func (q *pair) drop() {
	q.s.Log().Drop()
	q.now = q.safe.clone()
}

func (q *pair) commit() {
	q.t.Helper()
	mustCommit(q.t, q.s.Log())
	q.safe = q.now.clone()
}

// free tells how many blocks are left.
func (q *pair) free() int { return q.s.Layout().Sectors - q.s.Layout().Data - q.now.blocks() }

// place gives one near the ends of parts, indexes and the file itself.
func (q *pair) place() int {
	bases := []int{0, 128, 1024, 1152, 9216, 9344, 16384, q.rng.IntN(2048), q.rng.IntN(16384)}
	return max(0, bases[q.rng.IntN(len(bases))]+q.rng.IntN(5)-2)
}

// settle takes what a call that changes something has answered, where need says how many blocks it takes more, and do what it does to the plain files.
func (q *pair) settle(what string, e api.Errno, staged, need int, do func()) {
	q.t.Helper()
	q.refused[e]++
	if need > q.free() {
		mustBe(q.t, what, e, api.ErrNoSpace)
		q.drop()
		return
	}
	if e == api.ErrLogFull {
		// No call here has more than 12 sectors of its own but a write, which has its parts.
		if room := q.s.Log().Len(); staged+need+12 < room {
			q.t.Fatalf("%s: the log is full, with %d staged of %d", what, staged, room)
		}
		q.drop()
		return
	}
	mustBe(q.t, what, e, api.OK)
	do()
}

func (q *pair) create() {
	q.t.Helper()
	kind, staged := 1+q.rng.IntN(3), q.s.Log().Staged()
	least := 1
	for q.now[least] != nil {
		least++
	}
	i, e := q.x.New(kind)
	if least >= q.s.Layout().Inodes {
		mustBe(q.t, "New", e, api.ErrNoSpace)
		q.drop()
		return
	}
	q.settle("New", e, staged, 0, func() {
		if i != least {
			q.t.Fatalf("New gives %d, not %d", i, least)
		}
		q.now[i] = &file{kind: kind, parts: map[int]struct{}{}}
	})
}

func (q *pair) write(i int, f *file) {
	q.t.Helper()
	at, staged := q.place(), q.s.Log().Staged()
	b := bytes.Repeat([]byte{byte(q.rng.IntN(256))}, 1+q.rng.IntN(700))
	if q.rng.IntN(8) == 0 {
		b = make([]byte, 1+q.rng.IntN(9000))
	}
	e := q.x.Write(i, at, b)
	if at+len(b) > api.MaxFile {
		mustBe(q.t, "Write", e, api.ErrBig)
		return
	}
	then := f.clone()
	then.write(at, b)
	q.settle("Write", e, staged+len(b)/128, then.blocks()-f.blocks(), func() { q.now[i] = then })
}

func (q *pair) truncate(i int, f *file) {
	q.t.Helper()
	size, staged := min(q.place(), api.MaxFile), q.s.Log().Staged()
	e := q.x.Truncate(i, size)
	q.settle("Truncate", e, staged, 0, func() { f.truncate(size) })
}

func (q *pair) unlink(i int, f *file) {
	q.t.Helper()
	staged := q.s.Log().Staged()
	e := q.x.Unlink(i)
	q.settle("Unlink", e, staged, 0, func() {
		f.links--
		if f.links <= 0 {
			delete(q.now, i)
		}
	})
}

func (q *pair) link(i int, f *file) {
	q.t.Helper()
	staged := q.s.Log().Staged()
	e := q.x.Link(i)
	q.settle("Link", e, staged, 0, func() { f.links++ })
}

// step does one call to both.
func (q *pair) step() {
	q.t.Helper()
	i := 1 + q.rng.IntN(6)
	f := q.now[i]
	switch k := q.rng.IntN(16); {
	case k == 0:
		q.drop()
	case k < 4:
		q.commit()
	case f == nil:
		q.create()
	case k < 10:
		q.write(i, f)
	case k < 13:
		q.truncate(i, f)
	case k < 14:
		q.link(i, f)
	default:
		q.unlink(i, f)
	}
}

// hold asks for all that can be asked, and reads the sectors themselves.
func (q *pair) hold() {
	q.t.Helper()
	owner := map[int]int{}
	for i := range q.s.Layout().Inodes {
		f := q.now[i]
		if f == nil {
			if g, e := q.x.Get(i); g != (api.Inode{}) || e != api.ErrInode {
				q.t.Fatalf("Get(%d) of no inode: %v, %d", i, g, e)
			}
			continue
		}
		q.holdOne(i, f, owner)
	}
	mustLeave(q.t, q.s, q.free(), q.s.Layout().Inodes-1-len(q.now))
	for b := range owner {
		if has, e := q.s.Has(b); !has || e != api.OK {
			q.t.Fatalf("the block %d is not in use", b)
		}
	}
}

func (q *pair) holdOne(i int, f *file, owner map[int]int) {
	q.t.Helper()
	mustGet(q.t, q.x, i, api.Inode{Kind: f.kind, Links: f.links, Size: len(f.bytes)})
	mustRead(q.t, q.x, i, 0, api.MaxFile, string(f.bytes))
	at, n := q.place(), q.place()
	want := f.bytes[min(at, len(f.bytes)):]
	mustRead(q.t, q.x, i, at, n, string(want[:min(n, len(want))]))
	r := rawOf(q.t, q.s, i)
	if r.kind != f.kind || r.links != f.links || !bytes.Equal(r.bytes(q.t, q.s), f.bytes) {
		q.t.Fatalf("the sectors of %d say otherwise", i)
	}
	if len(r.parts) != len(f.parts) || len(r.blocks()) != f.blocks() {
		q.t.Fatalf("the inode %d has the parts %v, not %v", i, r.parts, f.parts)
	}
	for k := range f.parts {
		if r.parts[k] == 0 {
			q.t.Fatalf("the part %d of %d has no block", k, i)
		}
	}
	mustHaveBlocks(q.t, q.x, i, r.blocks()...)
	for _, b := range r.blocks() {
		if other := owner[b]; other != 0 {
			q.t.Fatalf("the block %d belongs to %d and to %d", b, other, i)
		}
		owner[b] = i
	}
}

// I1 to I6 hold for scripts of calls on small disks, where room is short, and on greater ones.
func TestI6ScriptsAgainstPlainFiles(t *testing.T) {
	refused := map[api.Errno]int{}
	for _, n := range []int{64, 100, 200, 1024} {
		for seed := range uint64(12) {
			q := newPair(t, n, seed)
			for range 150 {
				q.step()
				q.hold()
			}
			for e, k := range q.refused {
				refused[e] += k
			}
		}
	}
	if refused[api.ErrNoSpace] < 30 || refused[api.ErrLogFull] < 50 || refused[api.OK] < 500 {
		t.Fatal("the scripts come by too little", refused)
	}
}

// Whatever of one transaction power takes, all inodes are those ahead of it, or those behind it.
func TestI6WherePowerFails(t *testing.T) {
	ahead, behind := 0, 0
	for seed := range uint64(60) {
		q := newPair(t, 128, seed)
		for range 60 {
			q.step()
		}
		q.commit()
		for range 4 {
			q.step()
		}
		if q.crash() {
			behind++
		} else {
			ahead++
		}
		q.hold()
		for range 20 {
			q.step()
		}
		q.hold()
	}
	if ahead < 10 || behind < 10 {
		t.Fatal("power fails too much alike", ahead, behind)
	}
}

// crash lets power fail within the commit of what is staged, and tells whether that was done.
func (q *pair) crash() bool {
	q.t.Helper()
	q.d.Arm(q.rng.IntN(20), q.rng.Uint64())
	e := q.s.Log().Commit()
	if e != api.OK {
		mustBe(q.t, "Commit", e, api.ErrPower)
		if _, e := q.x.Get(1); e != api.ErrOff {
			q.t.Fatal("Get", e)
		}
	} else {
		q.d.Crash(q.rng.Uint64())
	}
	mustBe(q.t, "Start", q.d.Start(), api.OK)
	q.s = opened(q.t, q.d)
	q.x = inode.Over(q.s)
	if e == api.OK || q.same(q.now) {
		q.safe = q.now.clone()
		return true
	}
	q.now = q.safe.clone()
	return false
}

// same tells whether the bytes of all inodes, and which there are, are these.
func (q *pair) same(p files) bool {
	q.t.Helper()
	for i := range q.s.Layout().Inodes {
		g, e := q.x.Get(i)
		f := p[i]
		if f == nil || e != api.OK {
			if f != nil || e != api.ErrInode {
				return false
			}
			continue
		}
		b, _ := q.x.Read(i, 0, api.MaxFile)
		if g != (api.Inode{Kind: f.kind, Links: f.links, Size: len(f.bytes)}) || !bytes.Equal(b, f.bytes) {
			return false
		}
	}
	return true
}

// What the last Unlink frees can all be given again, as often as one likes.
func TestI6AllIsGivenAgain(t *testing.T) {
	_, s, x := made(t, 64)
	for range 20 {
		mustNew(t, x, 1, 1)
		for k := range 39 {
			mustBe(t, "Write", x.Write(1, 128*k, full(byte(k+1))), api.OK)
			mustCommit(t, s.Log())
		}
		mustLeave(t, s, 1, 14)
		mustNew(t, x, 2, 2)
		mustWrite(t, x, 2, 0, "x")
		mustBe(t, "Write", x.Write(2, 128, []byte("x")), api.ErrNoSpace)
		mustBe(t, "Unlink", x.Unlink(1), api.OK)
		mustBe(t, "Unlink", x.Unlink(2), api.OK)
		mustLeave(t, s, 41, 15)
		mustCommit(t, s.Log())
	}
}
