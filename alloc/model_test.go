package alloc_test

import (
	"bytes"
	"maps"
	"math/rand/v2"
	"slices"
	"testing"

	"bootjack/alloc"
	"bootjack/api"
	"bootjack/disk"
)

// store is which things of one kind are in use, and of each thing, in use or not, the one value that all its bytes have.
type store struct {
	used  map[int]struct{}
	bytes map[int]byte
}

func (r store) clone() store { return store{maps.Clone(r.used), maps.Clone(r.bytes)} }

func (r store) has(k int) bool {
	_, ok := r.used[k]
	return ok
}

type record struct {
	blocks, inodes store
}

func newRecord() record {
	return record{store{map[int]struct{}{}, map[int]byte{}}, store{map[int]struct{}{}, map[int]byte{}}}
}

func (r record) clone() record { return record{r.blocks.clone(), r.inodes.clone()} }

// plain is a space as the chapter's words say it: what is in use by the last commit, what is by now, and which sectors are staged, since a log may be full.
type plain struct {
	y         alloc.Layout
	room      int // the log's
	safe, now record
	staged    map[int]struct{}
}

func newPlain(y alloc.Layout) *plain {
	return &plain{y: y, room: y.LogLen - 1, safe: newRecord(), now: newRecord(), staged: map[int]struct{}{}}
}

func (p *plain) stage(sector int) api.Errno {
	if _, ok := p.staged[sector]; !ok {
		// In the tests here fewer than 60 are staged at a time, so all stand in one row.
		if len(p.staged)+1+1 > p.room {
			return api.ErrLogFull
		}
		p.staged[sector] = struct{}{}
	}
	return api.OK
}

func (p *plain) commit() {
	p.safe = p.now.clone()
	p.staged = map[int]struct{}{}
}

func (p *plain) drop() {
	p.now = p.safe.clone()
	p.staged = map[int]struct{}{}
}

// least gives the least number from first up to end that is not in use.
func (r store) least(first, end int) (int, bool) {
	for k := first; k < end; k++ {
		if !r.has(k) {
			return k, true
		}
	}
	return 0, false
}

func (p *plain) inodeSector(i int) int { return p.y.Table + i/4 }

func (p *plain) give(r store, first, end, sector int, home func(int) int) (int, api.Errno) {
	k, ok := r.least(first, end)
	if !ok {
		return 0, api.ErrNoSpace
	}
	if e := p.stage(sector); e != api.OK {
		return 0, e
	}
	r.used[k] = struct{}{}
	if e := p.stage(home(k)); e != api.OK {
		return 0, e
	}
	r.bytes[k] = 0
	return k, api.OK
}

func (p *plain) free(r store, k, sector int, none api.Errno) api.Errno {
	if !r.has(k) {
		return none
	}
	if e := p.stage(sector); e != api.OK {
		return e
	}
	delete(r.used, k)
	return api.OK
}

func (p *plain) block() (int, api.Errno) {
	return p.give(p.now.blocks, p.y.Data, p.y.Sectors, p.y.Map, func(b int) int { return b })
}

func (p *plain) inode() (int, api.Errno) {
	return p.give(p.now.inodes, 1, p.y.Inodes, p.y.Nodes, p.inodeSector)
}

// bits gives the map of a store, in which the bit 0 is of zero.
func (r store) bits(zero int) []byte {
	out := full(0)
	for k := range r.used {
		out[(k-zero)/8] |= 1 << ((k - zero) % 8)
	}
	return out
}

// nodes gives the inode map, in which the inode 0 has a bit, too.
func (r record) nodes() []byte {
	out := r.inodes.bits(0)
	out[0] |= 1
	return out
}

// pair is a space and what it must be.
type pair struct {
	t     *testing.T
	d     *disk.Disk
	s     *alloc.Space
	p     *plain
	rng   *rand.Rand
	marks byte
}

func newPair(t *testing.T, n int, seed uint64) *pair {
	d, s := made(t, n)
	return &pair{t: t, d: d, s: s, p: newPlain(s.Layout()), rng: rand.New(rand.NewPCG(seed, uint64(n)))}
}

// number gives one that is near those of things, and mostly is a thing's.
func (q *pair) number(end int) int { return q.rng.IntN(end+4) - 2 }

// step does one call to both, and holds their answers against each other.
func (q *pair) step(commits bool) {
	q.t.Helper()
	switch q.rng.IntN(12) {
	case 0, 1, 2:
		k, e := q.p.block()
		mustTell(q.t, "Block", q.s.Block, k, e)
	case 3, 4:
		k, e := q.p.inode()
		mustTell(q.t, "Inode", q.s.Inode, k, e)
	case 5, 6:
		b := q.number(q.p.y.Sectors)
		mustBe(q.t, "Free", q.s.Free(b), q.p.free(q.p.now.blocks, b, q.p.y.Map, api.ErrBlock))
	case 7:
		i := q.number(q.p.y.Inodes)
		mustBe(q.t, "FreeInode", q.s.FreeInode(i), q.p.free(q.p.now.inodes, i, q.p.y.Nodes, api.ErrInode))
	case 8, 9:
		q.mark()
	case 10:
		if commits {
			mustCommit(q.t, q.s.Log())
			q.p.commit()
		}
	case 11:
		if q.rng.IntN(3) == 0 {
			q.s.Log().Drop()
			q.p.drop()
		}
	}
}

// mark fills a block, or an inode, that is in use with a byte of its own.
func (q *pair) mark() {
	q.t.Helper()
	q.marks = q.marks%200 + 1
	r, inode := q.p.now.blocks, q.rng.IntN(2) == 0
	if inode {
		r = q.p.now.inodes
	}
	if len(r.used) == 0 {
		return
	}
	k := slices.Sorted(maps.Keys(r.used))[q.rng.IntN(len(r.used))]
	at, from, size := k, 0, api.SectorSize
	if inode {
		at, from, size = q.p.inodeSector(k), 32*(k%4), 32
	}
	b, e := q.s.Log().Read(at)
	mustBe(q.t, "Read", e, api.OK)
	copy(b[from:from+size], full(q.marks))
	want := q.p.stage(at)
	mustBe(q.t, "Stage", q.s.Log().Stage(at, b), want)
	if want == api.OK {
		r.bytes[k] = q.marks
	}
}

// check holds all that the space tells against r.
func (q *pair) check(r record) {
	q.t.Helper()
	y := q.p.y
	mustGive(q.t, "Blocks", q.s.Blocks, y.Sectors-y.Data-len(r.blocks.used))
	mustGive(q.t, "Inodes", q.s.Inodes, y.Inodes-1-len(r.inodes.used))
	for k := -2; k < y.Sectors+2; k++ {
		mustHave(q.t, "Has", q.s.Has, k, r.blocks.has(k))
		mustHave(q.t, "HasInode", q.s.HasInode, k, r.inodes.has(k))
	}
	if !q.holds(r) {
		q.t.Fatal("what stands in the sectors is another")
	}
}

// holds tells whether the sectors stand as r says: head, maps, inodes and blocks.
func (q *pair) holds(r record) bool {
	q.t.Helper()
	y := q.p.y
	ok := q.isAt(0, headOf(y.Sectors)) && q.isAt(y.Map, r.blocks.bits(y.Data)) && q.isAt(y.Nodes, r.nodes())
	for k := range y.Data - y.Table {
		var b []byte
		for i := 4 * k; i < 4*k+4; i++ {
			b = append(b, full(r.inodes.bytes[i])[:32]...)
		}
		ok = ok && q.isAt(y.Table+k, b)
	}
	for b := y.Data; b < y.Sectors; b++ {
		ok = ok && q.isAt(b, full(r.blocks.bytes[b]))
	}
	return ok
}

func (q *pair) isAt(i int, want []byte) bool {
	q.t.Helper()
	b, e := q.s.Log().Read(i)
	mustBe(q.t, "Read", e, api.OK)
	return bytes.Equal(b, want)
}

// Whatever is given, freed, committed and dropped: what is given is given once, without a byte of what was there, and a Drop takes all back.
func TestA5Scripts(t *testing.T) {
	for _, n := range []int{64, 70, 130, 200} {
		for seed := range uint64(12) {
			q := newPair(t, n, seed)
			for range 600 {
				q.step(true)
				if q.s.Log().Staged() != len(q.p.staged) {
					t.Fatalf("%d are staged, not %d", q.s.Log().Staged(), len(q.p.staged))
				}
				if q.rng.IntN(8) == 0 {
					q.check(q.p.now)
				}
			}
			q.check(q.p.now)
		}
	}
}

// Behind a loss of power all is as by the last commit that was answered, or by the one that was under way.
func TestA5PowerFails(t *testing.T) {
	for seed := range uint64(300) {
		q := newPair(t, []int{64, 97}[seed%2], seed)
		for range 6 {
			for range q.rng.IntN(30) {
				q.step(false)
			}
			q.d.Arm(q.rng.IntN(40), q.rng.Uint64())
			e := q.s.Log().Commit()
			if e == api.OK {
				q.p.commit()
				q.d.Crash(q.rng.Uint64())
			} else {
				mustBe(t, "Commit", e, api.ErrPower)
			}
			mustBe(t, "Start", q.d.Start(), api.OK)
			q.s = mustOpen(t, reopened(t, q.d), q.p.y.Sectors)
			if q.holds(q.p.now) {
				q.p.commit()
			} else {
				q.p.drop()
			}
			q.check(q.p.safe)
		}
	}
}

func TestA5DropTakesAllBack(t *testing.T) {
	_, s := made(t, 64)
	l := s.Log()
	mustGive(t, "Block", s.Block, 23)
	mustGive(t, "Block", s.Block, 24)
	mustGive(t, "Inode", s.Inode, 1)
	mustCommit(t, l)
	mustStage(t, l, 23, full(5))
	mustCommit(t, l)
	mustFree(t, s, 23)
	mustGive(t, "Block", s.Block, 23)
	mustRead(t, l, 23, full(0))
	mustGive(t, "Block", s.Block, 25)
	mustFreeInode(t, s, 1)
	l.Drop()
	mustRead(t, l, 23, full(5))
	mustHave(t, "Has", s.Has, 23, true)
	mustHave(t, "Has", s.Has, 25, false)
	mustHave(t, "HasInode", s.HasInode, 1, true)
	mustGive(t, "Blocks", s.Blocks, 39)
	mustGive(t, "Inodes", s.Inodes, 14)
	mustGive(t, "Block", s.Block, 25)
	mustGive(t, "Inode", s.Inode, 2)
}

// A Drop takes back no more than what was staged since the last Commit, and what Home has written neither.
func TestA5CommittedStays(t *testing.T) {
	d, s := made(t, 64)
	mustGive(t, "Block", s.Block, 23)
	mustGive(t, "Inode", s.Inode, 1)
	mustCommit(t, s.Log())
	s.Log().Drop()
	mustHave(t, "Has", s.Has, 23, true)
	mustBe(t, "Home", s.Log().Home(), api.OK)
	s.Log().Drop()
	again := mustOpen(t, reopened(t, d), 64)
	mustHave(t, "Has", again.Has, 23, true)
	mustHave(t, "HasInode", again.HasInode, 1, true)
	mustGive(t, "Block", again.Block, 24)
	mustGive(t, "Inode", again.Inode, 2)
}

func TestA5GivenOnce(t *testing.T) {
	_, s := made(t, 1024)
	seen := map[int]struct{}{}
	for {
		b, e := s.Block()
		if e == api.ErrNoSpace {
			break
		}
		mustBe(t, "Block", e, api.OK)
		if _, ok := seen[b]; ok {
			t.Fatal("given twice", b)
		}
		seen[b] = struct{}{}
		mustStage(t, s.Log(), b, full(255))
		mustCommit(t, s.Log())
	}
	if len(seen) != 1024-163 {
		t.Fatal("given in all", len(seen))
	}
	for b := range seen {
		mustFree(t, s, b)
	}
	for range seen {
		b, e := s.Block()
		mustBe(t, "Block", e, api.OK)
		mustRead(t, s.Log(), b, full(0))
		mustCommit(t, s.Log())
	}
}
