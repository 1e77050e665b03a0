// Package disk is layer 1: see shared/doc/01-disk.md.
package disk

import (
	"slices"

	"bootjack/api"
)

const allOnes = ^uint64(0)

// sector is an array, so that each assignment copies its bytes and nothing is shared.
type sector [api.SectorSize]byte

// write is one that is loose: which sector, and what it was made.
type write struct {
	at   int
	data sector
}

// Disk is a device of sectors with a cache that a loss of power may take.
type Disk struct {
	lasting []sector // what a loss of power can't take, but by writes that stay
	now     []sector // what is read
	loose   []write  // in the order in which they were done
	up      bool
	deeds   int
	bound   bool   // whether power is bound to fail
	after   int    // if bound: behind how many deeds more
	keep    uint64 // if bound: which loose writes stay then
}

// New makes a disk of n sectors with power, all bytes 0; nil, if there may be no such disk.
func New(n int) *Disk {
	if n < 1 || n > api.MaxSectors {
		return nil
	}
	return &Disk{lasting: make([]sector, n), now: make([]sector, n), up: true}
}

// Len tells how many sectors there are.
func (d *Disk) Len() int { return len(d.now) }

// Up tells whether the disk has power.
func (d *Disk) Up() bool { return d.up }

// Read tells a sector's bytes as the last write made them.
func (d *Disk) Read(i int) ([]byte, api.Errno) {
	if e := d.reach(i); e != api.OK {
		return nil, e
	}
	s := d.now[i]
	return s[:], api.OK
}

// Write makes a sector's bytes b; till the next flush a loss of power may take it.
func (d *Disk) Write(i int, b []byte) api.Errno {
	if e := d.reach(i); e != api.OK {
		return e
	}
	if len(b) != api.SectorSize {
		return api.ErrSize
	}
	if e := d.deed(); e != api.OK {
		return e
	}
	w := write{at: i}
	copy(w.data[:], b)
	d.now[i] = w.data
	d.loose = append(d.loose, w)
	return api.OK
}

// Flush makes all loose writes stay.
func (d *Disk) Flush() api.Errno {
	if !d.up {
		return api.ErrOff
	}
	if e := d.deed(); e != api.OK {
		return e
	}
	d.settle(allOnes)
	return api.OK
}

// Dirty tells how many writes are loose.
func (d *Disk) Dirty() int { return len(d.loose) }

// Deeds tells how many writes and flushes were done in all.
func (d *Disk) Deeds() int { return d.deeds }

// Arm binds power to fail behind some deeds more, with keep; with after below 0 it is not bound any more.
func (d *Disk) Arm(after int, keep uint64) {
	if !d.up {
		return
	}
	if after < 0 {
		d.disarm()
		return
	}
	d.bound, d.after, d.keep = true, after, keep
}

// Crash makes power fail now: of the loose writes those stay that keep says.
func (d *Disk) Crash(keep uint64) {
	if d.up {
		d.fail(keep)
	}
}

// Start gives the disk power again.
func (d *Disk) Start() api.Errno {
	if d.up {
		return api.ErrUp
	}
	d.up = true
	return api.OK
}

// Clone makes a disk that stands as this one in all and shares nothing with it.
func (d *Disk) Clone() *Disk {
	c := *d
	c.lasting = slices.Clone(d.lasting)
	c.now = slices.Clone(d.now)
	c.loose = slices.Clone(d.loose)
	return &c
}

// reach tells why the sector i can't be read or written; OK, if it can.
func (d *Disk) reach(i int) api.Errno {
	if !d.up {
		return api.ErrOff
	}
	if i < 0 || i >= len(d.now) {
		return api.ErrSector
	}
	return api.OK
}

// deed counts a deed that is about to be done. It comes behind all refusals and ahead of any change, since power that is bound to fail does so here, and the deed is not done then.
func (d *Disk) deed() api.Errno {
	if d.bound && d.after == 0 {
		d.fail(d.keep)
		return api.ErrPower
	}
	if d.bound {
		d.after--
	}
	d.deeds++
	return api.OK
}

// fail takes power away, and with it what was loose and does not stay.
func (d *Disk) fail(keep uint64) {
	d.settle(keep)
	copy(d.now, d.lasting)
	d.up = false
	d.disarm()
}

// settle ends the loose writes: those that keep says are lasting. The order matters, for a later one of the same sector wins.
func (d *Disk) settle(keep uint64) {
	for i, w := range d.loose {
		if keep>>(i%64)&1 == 1 {
			d.lasting[w.at] = w.data
		}
	}
	d.loose = nil
}

func (d *Disk) disarm() {
	d.bound, d.after, d.keep = false, 0, 0
}
