package inode

import "bootjack/api"

// tour comes by the parts from first to last, rising, and by the indexes above them. It hands each number on, 0 where there is none; what it is answered the number is from then on.
type tour struct {
	table       *Table
	first, last int
	index       func(b int) (int, api.Errno)
	part        func(k, b int) (int, api.Errno)
}

// through goes through the parts of n in which the bytes from at on lie, size of them.
func (t *Table) through(n *node, at, size int, index func(b int) (int, api.Errno), part func(k, b int) (int, api.Errno)) api.Errno {
	o := tour{table: t, first: at / api.SectorSize, last: (at + size - 1) / api.SectorSize, index: index, part: part}
	k := 0
	for r := range n.roots {
		b, e := o.below(n.roots[r], k, width(r))
		if e != api.OK {
			return e
		}
		n.roots[r] = b
		k += width(r)
	}
	return api.OK
}

// below comes by the parts from k on, wide of them, that stand below the number b, and tells what that number is then.
func (o tour) below(b, k, wide int) (int, api.Errno) {
	if k > o.last || k+wide <= o.first {
		return b, api.OK
	}
	if wide == 1 {
		return o.part(k, b)
	}
	b, e := o.index(b)
	if e != api.OK {
		return 0, e
	}
	was, e := o.table.indexAt(b)
	if e != api.OK {
		return 0, e
	}
	now := was
	for m := range now {
		c, e := o.below(now[m], k+m*wide/indexLen, wide/indexLen)
		if e != api.OK {
			return 0, e
		}
		now[m] = c
	}
	return o.table.changeIndex(b, was, now)
}

// indexAt tells the numbers in the block b; noughts, if b is none.
func (t *Table) indexAt(b int) (index, api.Errno) {
	if b == 0 {
		return index{}, api.OK
	}
	s, e := t.space.Log().Read(b)
	if e != api.OK {
		return index{}, e
	}
	return indexOf(s), api.OK
}

// changeIndex tells which number the index has then: one without numbers is not in use any more.
func (t *Table) changeIndex(b int, was, now index) (int, api.Errno) {
	if now == was {
		return b, api.OK
	}
	if now == (index{}) {
		return 0, t.space.Free(b)
	}
	s := now.bytes()
	return b, t.space.Log().Stage(b, s[:])
}

// asItIs leaves an index as it is, and a missing one missing.
func asItIs(b int) (int, api.Errno) { return b, api.OK }

// read fills out with the bytes of n from at on. Holes are noughts, as out is.
func (t *Table) read(n node, at int, out []byte) api.Errno {
	return t.through(&n, at, len(out), asItIs, func(k, b int) (int, api.Errno) {
		if b == 0 {
			return b, api.OK
		}
		s, e := t.space.Log().Read(b)
		if e != api.OK {
			return 0, e
		}
		piece, from := within(k, at, out)
		copy(piece, s[from:])
		return b, api.OK
	})
}

// write makes the bytes of n from at on data. Parts and indexes that are missing are made.
func (t *Table) write(n *node, at int, data []byte) api.Errno {
	missing := func(b int) (int, api.Errno) {
		if b != 0 {
			return b, api.OK
		}
		return t.space.Block()
	}
	return t.through(n, at, len(data), missing, func(k, b int) (int, api.Errno) {
		b, e := missing(b)
		if e != api.OK {
			return 0, e
		}
		s, e := t.space.Log().Read(b)
		if e != api.OK {
			return 0, e
		}
		piece, from := within(k, at, data)
		copy(s[from:], piece)
		return b, t.space.Log().Stage(b, s)
	})
}

// roomFor answers ErrNoSpace, if it takes more blocks than are not in use to write size bytes from at on. It is asked ahead of all that is staged, so that a log that is full does not hide it.
func (t *Table) roomFor(n node, at, size int) api.Errno {
	need := 0
	count := func(b int) (int, api.Errno) {
		if b == 0 {
			need++
		}
		return b, api.OK
	}
	e := t.through(&n, at, size, count, func(_, b int) (int, api.Errno) { return count(b) })
	if e != api.OK {
		return e
	}
	free, e := t.space.Blocks()
	if e != api.OK {
		return e
	}
	if need > free {
		return api.ErrNoSpace
	}
	return api.OK
}

// cut frees all blocks of n that lie behind size wholly, and makes what lies behind it of the part that stays 0, so that no byte of it is seen where n grows again.
func (t *Table) cut(n *node, size int) api.Errno {
	return t.through(n, size, api.MaxFile-size, asItIs, func(k, b int) (int, api.Errno) {
		if b == 0 {
			return b, api.OK
		}
		if start := k * api.SectorSize; start < size {
			return b, t.clearFrom(b, size-start)
		}
		return 0, t.space.Free(b)
	})
}

// clearFrom stages nothing where all these bytes are 0.
func (t *Table) clearFrom(b, from int) api.Errno {
	s, e := t.space.Log().Read(b)
	if e != api.OK {
		return e
	}
	was := sector(s)
	clear(s[from:])
	if sector(s) == was {
		return api.OK
	}
	return t.space.Log().Stage(b, s)
}

// blocks gathers all blocks of n, indexes too.
func (t *Table) blocks(n node) ([]int, api.Errno) {
	var all []int
	gather := func(b int) (int, api.Errno) {
		if b != 0 {
			all = append(all, b)
		}
		return b, api.OK
	}
	e := t.through(&n, 0, api.MaxFile, gather, func(_, b int) (int, api.Errno) { return gather(b) })
	return all, e
}

// within tells the bytes of b, that stands from at on, from the part k's first one on, and which byte of the part that is.
func within(k, at int, b []byte) ([]byte, int) {
	start := k*api.SectorSize - at
	if start < 0 {
		return b, -start
	}
	return b[start:], 0
}
