package wal_test

import (
	"bytes"
	"math/rand/v2"
	"testing"

	"bootjack/api"
	"bootjack/disk"
	"bootjack/wal"
)

// batch is what one commit is to make of some homes.
type batch map[int]byte

// scene is a region, what was committed there, and what is to be.
type scene struct {
	size, from, n int
	before        []batch
	next          batch
}

var scenes = map[string]scene{
	"the first commit":          {20, 5, 8, nil, batch{0: 1, 4: 2, 19: 3}},
	"a commit behind another":   {20, 5, 8, []batch{{0: 1, 4: 2}}, batch{4: 3, 19: 4}},
	"a commit that goes home":   {20, 5, 8, []batch{{0: 1, 4: 2, 13: 9}, {4: 3}}, batch{4: 4, 0: 5, 14: 6}},
	"the least room":            {6, 1, 4, []batch{{0: 1, 5: 2}}, batch{0: 3, 5: 4}},
	"a room that is full twice": {14, 5, 7, []batch{{0: 1, 1: 2, 2: 3, 3: 4, 4: 5}, {0: 6, 13: 7}}, batch{2: 8, 3: 9, 4: 10, 12: 11, 13: 12}},
}

func (s scene) disk(t *testing.T) *disk.Disk {
	t.Helper()
	d, l := made(t, s.size, s.from, s.n)
	for _, b := range s.before {
		stageAll(t, l, b)
		mustCommit(t, l)
	}
	return d
}

func stageAll(t *testing.T, l *wal.Log, b batch) {
	t.Helper()
	for i, c := range b {
		mustStage(t, l, i, c)
	}
}

// ahead and behind give what each home is by the log ahead of the last commit, and behind it.
func (s scene) ahead() batch { return over(s.before) }

func (s scene) behind() batch { return over(append(s.before[:len(s.before):len(s.before)], s.next)) }

func over(bs []batch) batch {
	out := batch{}
	for _, b := range bs {
		for i, c := range b {
			out[i] = c
		}
	}
	return out
}

func tells(t *testing.T, l *wal.Log, s scene, want batch) bool {
	t.Helper()
	for i := range s.size {
		if i >= s.from && i < s.from+s.n {
			continue
		}
		b, e := l.Read(i)
		mustBe(t, "Read", e, api.OK)
		if !bytes.Equal(b, full(want[i])) {
			return false
		}
	}
	return true
}

// Of all scenes at most 7 writes are loose at a time, so these keeps are all there are.
const keeps = 1 << 7

// Wherever power fails within a Commit, whatever stays: all or nothing.
func TestW6PowerFailsInCommit(t *testing.T) {
	for name, s := range scenes {
		d := s.disk(t)
		call := func(c *disk.Disk) api.Errno {
			l := mustOpen(t, c, s.from, s.n)
			stageAll(t, l, s.next)
			return l.Commit()
		}
		all := deedsOf(d, call)
		for after := range all + 1 {
			for keep := range uint64(keeps) {
				c := d.Clone()
				c.Arm(after, keep)
				e := call(c)
				want := api.ErrPower
				if after == all {
					want = api.OK
					c.Crash(keep)
				}
				mustBe(t, name, e, want)
				mustStart(t, c)
				l := mustOpen(t, c, s.from, s.n)
				mustCount(t, l, 0, l.Used())
				old, done := tells(t, l, s, s.ahead()), tells(t, l, s, s.behind())
				if !done && (e == api.OK || !old) {
					t.Fatalf("%s: behind %d of %d deeds, with %b: neither ahead nor behind", name, after, all, keep)
				}
				if after < all-2 && !old {
					t.Fatalf("%s: behind %d of %d deeds, with %b: done ahead of its control", name, after, all, keep)
				}
			}
		}
	}
}

func deedsOf(d *disk.Disk, call func(c *disk.Disk) api.Errno) int {
	c := d.Clone()
	call(c)
	return c.Deeds() - d.Deeds()
}

// Wherever power fails within a Home, and again within the next one: nothing that Read tells is changed, and a Home that is answered has all at home.
func TestW6PowerFailsInHome(t *testing.T) {
	for name, s := range scenes {
		d := s.disk(t)
		if s.before == nil {
			continue
		}
		home := func(c *disk.Disk) api.Errno { return mustOpen(t, c, s.from, s.n).Home() }
		for after := range deedsOf(d, home) {
			for keep := range uint64(keeps) {
				c := d.Clone()
				c.Arm(after, keep)
				mustBe(t, name, home(c), api.ErrPower)
				mustStart(t, c)
				l := mustOpen(t, c, s.from, s.n)
				if !tells(t, l, s, s.ahead()) {
					t.Fatalf("%s: behind %d deeds, with %b: changed by Home", name, after, keep)
				}
				mustGoHome(t, c, s)
			}
		}
	}
}

// mustGoHome lets power fail behind each deed of a further Home, and then does it.
func mustGoHome(t *testing.T, d *disk.Disk, s scene) {
	t.Helper()
	for after := 0; ; after++ {
		d.Arm(after, 0x5555555555555555)
		l := mustOpen(t, d, s.from, s.n)
		e := l.Home()
		if e == api.OK {
			break
		}
		mustBe(t, "Home", e, api.ErrPower)
		mustStart(t, d)
		if !tells(t, mustOpen(t, d, s.from, s.n), s, s.ahead()) {
			t.Fatal("changed by a further Home")
		}
	}
	d.Arm(-1, 0)
	d.Crash(0)
	mustStart(t, d)
	l := mustOpen(t, d, s.from, s.n)
	mustCount(t, l, 0, 0)
	if !tells(t, l, s, s.ahead()) {
		t.Fatal("changed by the last Home")
	}
	for i, c := range s.ahead() {
		mustHold(t, d, i, full(c))
	}
}

func TestW6WhatWasNotCommittedIsLost(t *testing.T) {
	d, l := made(t, 20, 0, 8)
	mustStage(t, l, 9, 1)
	mustCommit(t, l)
	mustStage(t, l, 9, 2)
	mustStage(t, l, 10, 2)
	d.Crash(allOnes)
	mustStart(t, d)
	l = mustOpen(t, d, 0, 8)
	mustCount(t, l, 0, 2)
	mustRead(t, l, 9, full(1))
	mustRead(t, l, 10, full(0))
}

func TestW6HomeChangesNothingThatReadTells(t *testing.T) {
	s := scenes["a room that is full twice"]
	d := s.disk(t)
	l := mustOpen(t, d, s.from, s.n)
	mustHome(t, l)
	if !tells(t, l, s, s.ahead()) || !tells(t, mustOpen(t, d, s.from, s.n), s, s.ahead()) {
		t.Fatal("changed by Home")
	}
	stageAll(t, l, s.next)
	mustHome(t, l)
	if !tells(t, l, s, s.behind()) {
		t.Fatal("what is staged is changed by Home")
	}
}

// A row of commits with a loss of power at any deed, and a great room: what Open tells is always what the commits that were answered made, or these and the one under way.
func TestW6ManyCommitsThroughManyLosses(t *testing.T) {
	const size, from, n = 400, 30, 100
	for seed := range uint64(60) {
		r := rand.New(rand.NewPCG(seed, 6))
		d, l := made(t, size, from, n)
		s := scene{size: size, from: from, n: n}
		done := batch{}
		for range 40 {
			next := someHomes(r, s)
			stageAll(t, l, next)
			if r.IntN(2) == 0 {
				d.Arm(r.IntN(120), r.Uint64())
			}
			both := over([]batch{done, next})
			e := l.Commit()
			if e == api.OK {
				done = both
				if r.IntN(4) == 0 {
					e = l.Home()
				}
			}
			if e != api.OK {
				mustBe(t, "Commit or Home", e, api.ErrPower)
				mustStart(t, d)
				l = mustOpen(t, d, from, n)
				if tells(t, l, s, both) {
					done = both
				}
			}
			if !tells(t, l, s, done) {
				t.Fatal("seed", seed, "neither ahead nor behind")
			}
		}
	}
}

func someHomes(r *rand.Rand, s scene) batch {
	b := batch{}
	for range r.IntN(80) {
		i := r.IntN(s.size - s.n)
		if i >= s.from {
			i += s.n
		}
		b[i] = byte(r.IntN(256))
	}
	return b
}
