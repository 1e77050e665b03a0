package dirs

import (
	"slices"

	"bootjack/api"
)

const (
	slotSize  = 40
	nameBegin = 4 // of a slot's bytes
)

// slot is a name and its inode as they stand in a directory's bytes. It is an array, so that the one without bytes is the empty one.
type slot [slotSize]byte

func slotOf(node int, name string) slot {
	var s slot
	s[0], s[1], s[2] = byte(node), byte(node>>8), byte(len(name))
	copy(s[nameBegin:], name)
	return s
}

func (s slot) node() int { return int(s[0]) | int(s[1])<<8 }

func (s slot) empty() bool { return s.node() == 0 }

// name ends with the slot, whatever length bytes that were not written here tell.
func (s slot) name() string {
	return string(s[nameBegin:min(nameBegin+int(s[2]), slotSize)])
}

// find tells which slot has this name; -1, if none has.
func find(all []slot, name string) int {
	return slices.IndexFunc(all, func(s slot) bool { return !s.empty() && s.name() == name })
}

// firstEmpty tells which slot is the first empty one: the one behind the last, if none is.
func firstEmpty(all []slot) int {
	if k := slices.IndexFunc(all, slot.empty); k >= 0 {
		return k
	}
	return len(all)
}

// slots tells the slots of the directory dir.
func (d *Dirs) slots(dir int) ([]slot, api.Errno) {
	b, e := d.table.Read(dir, 0, api.MaxFile)
	if e != api.OK {
		return nil, e
	}
	all := make([]slot, len(b)/slotSize)
	for k := range all {
		all[k] = slot(b[k*slotSize : (k+1)*slotSize])
	}
	return all, api.OK
}

// put makes the slot k of the directory dir s.
func (d *Dirs) put(dir, k int, s slot) api.Errno {
	return d.table.Write(dir, k*slotSize, s[:])
}

// empty makes the slot k of the directory dir empty, of whose slots all tells the others, and cuts off those that are so at the end.
func (d *Dirs) empty(dir int, all []slot, k int) api.Errno {
	all[k] = slot{}
	n := len(all)
	for n > 0 && all[n-1].empty() {
		n--
	}
	if k < n {
		if e := d.put(dir, k, slot{}); e != api.OK {
			return e
		}
	}
	return d.table.Truncate(dir, n*slotSize)
}
