package wal_test

import (
	"bytes"
	"maps"
	"math/rand/v2"
	"slices"
	"testing"

	"bootjack/api"
	"bootjack/disk"
	"bootjack/wal"
)

// plain is a log as the chapter's words say it: the bytes in the used places, what is staged, and the disk, which does deed by deed what the words ask for.
type plain struct {
	d       *disk.Disk
	from, n int
	epoch   uint64
	places  [][]byte
	staged  map[int]byte
	dead    bool
}

func (p *plain) isHome(i int) bool {
	return slices.Contains(p.homes(), i)
}

func (p *plain) homes() []int {
	var out []int
	for i := range p.d.Len() {
		if i < p.from || i > p.from+p.n-1 {
			out = append(out, i)
		}
	}
	return out
}

// logged gives the homes that have a sector of bytes in the room, with the last of these.
func (p *plain) logged() map[int][]byte {
	out := map[int][]byte{}
	for k := 0; k < len(p.places); {
		list := p.places[k]
		m := int(list[0])
		for j := range m {
			out[int(list[2+2*j])+256*int(list[3+2*j])] = p.places[k+1+j]
		}
		k += 1 + m
	}
	return out
}

func (p *plain) stage(i, size int, c byte) api.Errno {
	_, again := p.staged[i]
	switch {
	case p.dead:
		return api.ErrOff
	case !p.isHome(i):
		return api.ErrSector
	case size != api.SectorSize:
		return api.ErrSize
	case !again && costOf(len(p.staged)+1) > p.n-1:
		return api.ErrLogFull
	}
	p.staged[i] = c
	return api.OK
}

func (p *plain) read(i int) ([]byte, api.Errno) {
	switch {
	case p.dead:
		return nil, api.ErrOff
	case !p.isHome(i):
		return nil, api.ErrSector
	case !p.d.Up():
		p.dead = true
		return nil, api.ErrOff
	}
	if c, ok := p.staged[i]; ok {
		return full(c), api.OK
	}
	if b, ok := p.logged()[i]; ok {
		return b, api.OK
	}
	return p.d.Read(i)
}

// all does deeds one by one, up to the first that is not done.
func (p *plain) all(deeds []func() api.Errno) api.Errno {
	for _, do := range deeds {
		if e := do(); e != api.OK {
			p.dead = true
			return e
		}
	}
	return api.OK
}

func (p *plain) write(i int, b []byte) func() api.Errno {
	return func() api.Errno { return p.d.Write(i, b) }
}

// control gives the deeds by which the control comes to say this.
func (p *plain) control(epoch uint64, places [][]byte) []func() api.Errno {
	return []func() api.Errno{p.d.Flush, p.write(p.from, controlBytes(epoch, places)), p.d.Flush}
}

func (p *plain) home() api.Errno {
	if p.dead {
		return api.ErrOff
	}
	if len(p.places) == 0 {
		return api.OK
	}
	var deeds []func() api.Errno
	logged := p.logged()
	for _, i := range slices.Sorted(maps.Keys(logged)) {
		deeds = append(deeds, p.write(i, logged[i]))
	}
	e := p.all(append(deeds, p.control(p.epoch+1, nil)...))
	if e == api.OK {
		p.epoch, p.places = p.epoch+1, nil
	}
	return e
}

func (p *plain) commit() api.Errno {
	if p.dead {
		return api.ErrOff
	}
	if len(p.staged) == 0 {
		return api.OK
	}
	if len(p.places)+costOf(len(p.staged)) > p.n-1 {
		if e := p.home(); e != api.OK {
			return e
		}
	}
	next := slices.Clone(p.places)
	homes := slices.Sorted(maps.Keys(p.staged))
	for len(homes) > 0 {
		m := min(60, len(homes))
		next = append(next, listBytes(m, homes[:m]...))
		for _, i := range homes[:m] {
			next = append(next, full(p.staged[i]))
		}
		homes = homes[m:]
	}
	var deeds []func() api.Errno
	for k := len(p.places); k < len(next); k++ {
		deeds = append(deeds, p.write(p.from+1+k, next[k]))
	}
	e := p.all(append(deeds, p.control(p.epoch, next)...))
	if e == api.OK {
		p.places = next
		p.staged = map[int]byte{}
	}
	return e
}

// opened makes of p what Open is to tell behind a start: what it is itself, or one of those that it was about to be, by the control that stands there.
func (p *plain) opened(t *testing.T, about []*plain) {
	t.Helper()
	b, e := p.d.Read(p.from)
	mustBe(t, "disk's Read", e, api.OK)
	for _, q := range append(about, p) {
		if bytes.Equal(b, controlBytes(q.epoch, q.places)) {
			p.epoch, p.places, p.staged, p.dead = q.epoch, q.places, map[int]byte{}, false
			return
		}
	}
	t.Fatal("the control is neither the old one nor one that was about to be")
}

// behind gives what the log would be, had power not failed in the call.
func (p *plain) behind(call func(q *plain) api.Errno) *plain {
	q := *p
	q.d = p.d.Clone()
	q.d.Arm(-1, 0)
	q.staged = maps.Clone(p.staged)
	call(&q)
	return &q
}

// sameDisks holds all against each other that can be seen of two disks, what a loss of power would leave among it.
func sameDisks(t *testing.T, a, b *disk.Disk, keep uint64) {
	t.Helper()
	if a.Up() != b.Up() || a.Dirty() != b.Dirty() || a.Deeds() != b.Deeds() {
		t.Fatal("Up, Dirty, Deeds:", a.Up(), a.Dirty(), a.Deeds(), "not", b.Up(), b.Dirty(), b.Deeds())
	}
	a, b = a.Clone(), b.Clone()
	if a.Up() {
		sameSectors(t, a, b)
	}
	a.Crash(keep)
	b.Crash(keep)
	mustStart(t, a)
	mustStart(t, b)
	sameSectors(t, a, b)
}

func sameSectors(t *testing.T, a, b *disk.Disk) {
	t.Helper()
	for i := range a.Len() {
		want, _ := b.Read(i)
		mustHold(t, a, i, want)
	}
}

func sameLogs(t *testing.T, l *wal.Log, p *plain) {
	t.Helper()
	if l.Len() != p.n-1 {
		t.Fatal("Len", l.Len())
	}
	mustCount(t, l, len(p.staged), len(p.places))
	if !p.d.Up() {
		return // a Read would kill the log
	}
	for i := -1; i <= p.d.Len(); i++ {
		got, e := l.Read(i)
		want, f := p.read(i)
		if e != f || !bytes.Equal(got, want) {
			t.Fatalf("Read(%d): %v %d, not %v %d", i, got, e, want, f)
		}
	}
}

// script does some calls by chance with a log and with its plain twin.
type script struct {
	r     *rand.Rand
	d     *disk.Disk
	l     *wal.Log
	p     *plain
	about []*plain // what the twin would be behind the call in which power failed, and behind a Home within that
}

func newScript(t *testing.T, r *rand.Rand) *script {
	n := 4 + r.IntN(10)
	size := n + 1 + r.IntN(20)
	if r.IntN(20) == 0 {
		n = 100 + r.IntN(100)
		size = n + 200
	}
	from := r.IntN(size - n + 1)
	d, l := made(t, size, from, n)
	p := &plain{d: d.Clone(), from: from, n: n, epoch: 1, staged: map[int]byte{}}
	return &script{r: r, d: d, l: l, p: p}
}

func (s *script) step(t *testing.T) {
	t.Helper()
	switch k := s.r.IntN(20); {
	case k < 9:
		s.stage(t)
	case k < 13:
		s.begin()
		mustBe(t, "Commit", s.l.Commit(), s.p.commit())
	case k < 15:
		s.begin()
		mustBe(t, "Home", s.l.Home(), s.p.home())
	case k < 16:
		s.l.Drop()
		s.p.staged = map[int]byte{}
	case k < 18:
		after, keep := s.r.IntN(30)-1, s.keep()
		s.d.Arm(after, keep)
		s.p.d.Arm(after, keep)
	case k < 19 && s.r.IntN(4) == 0:
		keep := s.keep()
		s.d.Crash(keep)
		s.p.d.Crash(keep)
	default:
		s.again(t)
	}
}

func (s *script) begin() {
	if !s.p.dead {
		s.about = []*plain{s.p.behind((*plain).commit), s.p.behind((*plain).home)}
	}
}

func (s *script) keep() uint64 {
	return []uint64{0, allOnes, s.r.Uint64(), 1 << s.r.IntN(64)}[s.r.IntN(4)]
}

func (s *script) stage(t *testing.T) {
	t.Helper()
	for range 1 + s.r.IntN(1+s.p.n/2) {
		i, c, size := s.r.IntN(s.d.Len()+2)-1, byte(s.r.IntN(256)), api.SectorSize
		if s.r.IntN(20) == 0 {
			size = s.r.IntN(300)
		}
		b := bytes.Repeat([]byte{c}, size)
		mustBe(t, "Stage", s.l.Stage(i, b), s.p.stage(i, size, c))
	}
}

// again opens the log anew, behind a start if there is no power.
func (s *script) again(t *testing.T) {
	t.Helper()
	mustBe(t, "Start", s.d.Start(), s.p.d.Start())
	s.p.opened(t, s.about)
	s.l = mustOpen(t, s.d, s.p.from, s.p.n)
	s.about = nil
}

// For every script: each answer, and all that stands on the disk, is what the chapter says of plain lists.
func TestScripts(t *testing.T) {
	for seed := range uint64(400) {
		s := newScript(t, rand.New(rand.NewPCG(seed, 3)))
		for range 60 {
			s.step(t)
			sameDisks(t, s.d, s.p.d, s.keep())
			sameLogs(t, s.l, s.p)
		}
	}
}
