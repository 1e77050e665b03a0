package alloc

import "bootjack/api"

const (
	headMark      = "rootdisk"
	leastLog      = 16
	inodeSize     = 32
	inodesASector = api.SectorSize / inodeSize
)

// Layout tells where on a disk things stand.
type Layout struct {
	Sectors       int // all sectors
	Log, LogLen   int // the log's region
	Map           int // which blocks are in use
	Nodes         int // which inodes are
	Table, Inodes int // where the inodes stand, and how many there are
	Data          int // the first block
}

// sector is an array, so that a new one is noughts.
type sector [api.SectorSize]byte

// span is some things of one kind, from first to last, and none if last is less: in which sector their map stands, and of which thing its bit 0 is.
type span struct {
	sector, zero int
	first, last  int
}

// Lay tells the layout of a disk of n sectors.
func Lay(n int) (Layout, api.Errno) {
	if n < api.MinSectors || n > api.MaxSectors {
		return Layout{}, api.ErrRange
	}
	y := Layout{Sectors: n, Log: 1, LogLen: max(n/8, leastLog), Inodes: min(n/4, api.MaxInodes)}
	y.Map = y.Log + y.LogLen
	y.Nodes = y.Map + 1
	y.Table = y.Nodes + 1
	// The last sector of inodes may be filled in part alone.
	y.Data = y.Table + (y.Inodes+inodesASector-1)/inodesASector
	return y, api.OK
}

// blocks tells which of the numbers from first to last are blocks.
func (y Layout) blocks(first, last int) span {
	return span{sector: y.Map, zero: y.Data, first: max(first, y.Data), last: min(last, y.Sectors-1)}
}

// inodes tells which of the numbers from first to last are inodes. 0 is none, though it has a bit.
func (y Layout) inodes(first, last int) span {
	return span{sector: y.Nodes, zero: 0, first: max(first, 1), last: min(last, y.Inodes-1)}
}

// inodeAt tells in which sector the inode i stands, and from which byte on.
func (y Layout) inodeAt(i int) (int, int) {
	return y.Table + i/inodesASector, i % inodesASector * inodeSize
}

// head gives what stands in the sector 0.
func (y Layout) head() sector {
	var s sector
	at := copy(s[:], headMark)
	for k := range 4 {
		s[at+k] = byte(y.Sectors >> (8 * k))
	}
	return s
}
