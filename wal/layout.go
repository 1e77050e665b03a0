package wal

import (
	"bootjack/api"
	"bootjack/disk"
	"bootjack/sum"
)

// sector is an array, so that each assignment copies its bytes, and two are held against each other by ==.
type sector [api.SectorSize]byte

func readSector(d *disk.Disk, i int) (sector, api.Errno) {
	var s sector
	b, e := d.Read(i)
	copy(s[:], b)
	return s, e
}

// Where the control's parts begin.
const (
	mark     = "bootjack"
	epochAt  = 8
	usedAt   = 16
	placesAt = 18
	ownAt    = 26 // the sum of all bytes ahead of it
	ownEnd   = 34
)

// control is what the region's first sector says.
type control struct {
	epoch  uint64
	used   int
	places uint64 // the sum of the used places' bytes
}

// emptied gives a control by which nothing is used.
func emptied(epoch uint64) control {
	return control{epoch: epoch, places: sum.Sum(nil)}
}

func (c control) sector() sector {
	var s sector
	copy(s[:], mark)
	putNumber(s[epochAt:usedAt], c.epoch)
	putNumber(s[usedAt:placesAt], uint64(c.used))
	putNumber(s[placesAt:ownAt], c.places)
	putNumber(s[ownAt:ownEnd], sum.Sum(s[:ownAt]))
	return s
}

// controlOf tells what a control says, and whether it is one: then, and only then, what it says makes the same bytes again.
func controlOf(s sector) (control, bool) {
	c := control{
		epoch:  number(s[epochAt:usedAt]),
		used:   int(number(s[usedAt:placesAt])),
		places: number(s[placesAt:ownAt]),
	}
	if c.sector() != s {
		return control{}, false
	}
	return c, true
}

// Of a list: how many homes it may have, where they begin, and how many bytes each number has.
const (
	maxList = 60
	homesAt = 2
	homeLen = 2
)

// listOf gives the list of at most maxList homes.
func listOf(homes []int) sector {
	var s sector
	putNumber(s[:homesAt], uint64(len(homes)))
	for k, i := range homes {
		putNumber(homeBytes(&s, k), uint64(i))
	}
	return s
}

// homesOf tells the homes of a list, and whether it is one, by its bytes alone: 1 to maxList numbers, rising, and all other bytes 0.
func homesOf(s sector) ([]int, bool) {
	m := int(number(s[:homesAt]))
	if m < 1 || m > maxList {
		return nil, false
	}
	homes := make([]int, m)
	for k := range homes {
		homes[k] = int(number(homeBytes(&s, k)))
		if k > 0 && homes[k] <= homes[k-1] {
			return nil, false
		}
	}
	if listOf(homes) != s {
		return nil, false
	}
	return homes, true
}

// homeBytes gives the bytes in which the list's home k stands.
func homeBytes(s *sector, k int) []byte {
	at := homesAt + homeLen*k
	return s[at : at+homeLen]
}

// putNumber fills b with n, the lowest byte first.
func putNumber(b []byte, n uint64) {
	for k := range b {
		b[k] = byte(n >> (8 * k))
	}
}

// number tells what putNumber has put.
func number(b []byte) uint64 {
	var n uint64
	for k, c := range b {
		n |= uint64(c) << (8 * k)
	}
	return n
}
