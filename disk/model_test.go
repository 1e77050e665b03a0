package disk_test

import (
	"bytes"
	"math/rand/v2"
	"testing"

	"bootjack/api"
	"bootjack/disk"
)

// plain is a disk as the chapter's words say it: what each sector was when the last flush was done, and all writes since.
type plain struct {
	on      bool
	flushed []byte
	since   []plainWrite
	deeds   int
	after   int
	keep    uint64
}

type plainWrite struct {
	at int
	c  byte
}

func newPlain(n int) *plain {
	return &plain{on: true, flushed: make([]byte, n), after: -1}
}

// told gives what the sector i is, by the last of the writes since the flush that counts asks for.
func (p *plain) told(i int, counts func(number int) bool) byte {
	for k := len(p.since) - 1; k >= 0; k-- {
		if p.since[k].at == i && counts(k) {
			return p.since[k].c
		}
	}
	return p.flushed[i]
}

func (p *plain) end(counts func(number int) bool) {
	next := make([]byte, len(p.flushed))
	for i := range next {
		next[i] = p.told(i, counts)
	}
	p.flushed, p.since = next, nil
}

func every(int) bool { return true }

func (p *plain) crash(keep uint64) {
	if p.on {
		p.end(func(k int) bool { return keep&(1<<(k%64)) != 0 })
		p.on, p.after = false, -1
	}
}

func (p *plain) deed() api.Errno {
	if p.after == 0 {
		p.crash(p.keep)
		return api.ErrPower
	}
	p.after = max(p.after-1, -1)
	p.deeds++
	return api.OK
}

func (p *plain) write(i, size int, c byte) api.Errno {
	switch {
	case !p.on:
		return api.ErrOff
	case i < 0 || i >= len(p.flushed):
		return api.ErrSector
	case size != api.SectorSize:
		return api.ErrSize
	}
	e := p.deed()
	if e == api.OK {
		p.since = append(p.since, plainWrite{i, c})
	}
	return e
}

func (p *plain) flush() api.Errno {
	if !p.on {
		return api.ErrOff
	}
	e := p.deed()
	if e == api.OK {
		p.end(every)
	}
	return e
}

func (p *plain) arm(after int, keep uint64) {
	if p.on {
		p.after, p.keep = max(after, -1), keep
	}
}

func (p *plain) start() api.Errno {
	if p.on {
		return api.ErrUp
	}
	p.on = true
	return api.OK
}

// step is one call, on the disk and on the plain one.
type step struct {
	kind, i, size int
	c             byte
	keep          uint64
}

const (
	doWrite = iota
	doFlush
	doArm
	doCrash
	doStart
	doClone
	doKinds
)

func (s step) do(t *testing.T, d *disk.Disk, p *plain) *disk.Disk {
	t.Helper()
	got, want := api.OK, api.OK
	switch s.kind {
	case doWrite:
		got, want = d.Write(s.i, bytes.Repeat([]byte{s.c}, s.size)), p.write(s.i, s.size, s.c)
	case doFlush:
		got, want = d.Flush(), p.flush()
	case doArm:
		d.Arm(s.i, s.keep)
		p.arm(s.i, s.keep)
	case doCrash:
		d.Crash(s.keep)
		p.crash(s.keep)
	case doStart:
		got, want = d.Start(), p.start()
	case doClone:
		left := d
		d = d.Clone()
		spoil(left)
	}
	if got != want {
		t.Fatalf("%+v: %d, not %d", s, got, want)
	}
	return d
}

// spoil does to a disk whatever a clone of it must not see.
func spoil(d *disk.Disk) {
	d.Arm(-1, 0)
	d.Start()
	for i := range d.Len() {
		d.Write(i, full(255))
	}
	d.Flush()
	d.Crash(0)
}

func mustStandAs(t *testing.T, d *disk.Disk, p *plain) {
	t.Helper()
	if d.Up() != p.on || d.Len() != len(p.flushed) || d.Dirty() != len(p.since) || d.Deeds() != p.deeds {
		t.Fatalf("Up %t, Len %d, Dirty %d, Deeds %d, not %t, %d, %d, %d",
			d.Up(), d.Len(), d.Dirty(), d.Deeds(), p.on, len(p.flushed), len(p.since), p.deeds)
	}
	for i := range p.flushed {
		if !p.on {
			_, e := d.Read(i)
			mustBe(t, "Read", e, api.ErrOff)
			continue
		}
		mustRead(t, d, i, full(p.told(i, every)))
	}
}

// Every script of five of these calls, with two sectors.
func TestAllShortScripts(t *testing.T) {
	calls := []step{
		{kind: doWrite, i: 0, size: api.SectorSize},
		{kind: doWrite, i: 1, size: api.SectorSize},
		{kind: doWrite, i: 2, size: api.SectorSize},
		{kind: doFlush},
		{kind: doArm, i: 0, keep: 1},
		{kind: doArm, i: 2, keep: 2},
		{kind: doArm, i: -1},
		{kind: doCrash, keep: 0},
		{kind: doCrash, keep: 2},
		{kind: doStart},
		{kind: doClone},
	}
	const long = 5
	var script func(d *disk.Disk, p *plain, left int)
	script = func(d *disk.Disk, p *plain, left int) {
		if left == 0 {
			return
		}
		for _, s := range calls {
			s.c = byte(left)
			next := *p
			next.since = append([]plainWrite(nil), p.since...)
			x := s.do(t, d.Clone(), &next)
			mustStandAs(t, x, &next)
			script(x, &next, left-1)
		}
	}
	script(disk.New(2), newPlain(2), long)
}

func someStep(r *rand.Rand, n int) step {
	s := step{kind: doWrite, i: r.IntN(n), size: api.SectorSize, c: byte(r.Uint32()), keep: r.Uint64()}
	if r.IntN(4) > 0 {
		return s
	}
	s.kind = r.IntN(doKinds)
	switch s.kind {
	case doWrite:
		s.i = r.IntN(n+4) - 2
		s.size += r.IntN(3) - 1
	case doArm:
		s.i = r.IntN(200) - 20
	case doFlush, doCrash:
		// Both are held back, so that now and then more than 64 writes are loose.
		if r.IntN(3) > 0 {
			s.kind = doStart
		}
	}
	return s
}

// Long scripts, the same ones in every run.
func TestLongScripts(t *testing.T) {
	for seed := range uint64(200) {
		r := rand.New(rand.NewPCG(seed, 1))
		n := 1 + r.IntN(8)
		d, p := disk.New(n), newPlain(n)
		for range 600 {
			d = someStep(r, n).do(t, d, p)
			mustStandAs(t, d, p)
		}
	}
}
