package inode

import "bootjack/api"

const (
	nodeSize     = 32
	nodesASector = api.SectorSize / nodeSize
	indexLen     = 64
	numberSize   = 2
	firstNumber  = 8 // of a node's bytes
	direct       = 8 // parts whose blocks stand in the node itself
	roots        = direct + 2
)

// node is what the 32 bytes of an inode say. Its numbers are a value with it, so that a copy tells what it was.
type node struct {
	kind, links, size int
	roots             [roots]int // of the parts 0 to 7, of the index, of the double index
}

// index is the numbers that stand in a block.
type index [indexLen]int

// sector is an array, so that a new one is noughts.
type sector [api.SectorSize]byte

// width tells of how many parts the blocks stand below the root r.
func width(r int) int {
	switch r {
	case direct:
		return indexLen
	case direct + 1:
		return indexLen * indexLen
	}
	return 1
}

func nodeOf(b []byte) node {
	n := node{kind: int(b[0]), links: number(b[2:4]), size: number(b[4:8])}
	for r := range n.roots {
		at := firstNumber + numberSize*r
		n.roots[r] = number(b[at : at+numberSize])
	}
	return n
}

func (n node) bytes() [nodeSize]byte {
	var b [nodeSize]byte
	b[0] = byte(n.kind)
	putNumber(b[2:4], n.links)
	putNumber(b[4:8], n.size)
	for r, k := range n.roots {
		at := firstNumber + numberSize*r
		putNumber(b[at:at+numberSize], k)
	}
	return b
}

func indexOf(b []byte) index {
	var x index
	for k := range x {
		x[k] = number(b[numberSize*k : numberSize*k+numberSize])
	}
	return x
}

func (x index) bytes() sector {
	var s sector
	for k, b := range x {
		putNumber(s[numberSize*k:numberSize*k+numberSize], b)
	}
	return s
}

// number reads all of b, the lowest byte first.
func number(b []byte) int {
	n := 0
	for k := len(b) - 1; k >= 0; k-- {
		n = n<<8 | int(b[k])
	}
	return n
}

// putNumber fills all of b with n, the lowest byte first.
func putNumber(b []byte, n int) {
	for k := range b {
		b[k] = byte(n >> (8 * k))
	}
}
