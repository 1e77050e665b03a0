package inode_test

import (
	"bytes"
	"math"
	"slices"
	"testing"

	"bootjack/alloc"
	"bootjack/api"
	"bootjack/disk"
	"bootjack/inode"
	"bootjack/wal"
)

func full(c byte) []byte { return bytes.Repeat([]byte{c}, api.SectorSize) }

func mustBe(t *testing.T, what string, got, want api.Errno) {
	t.Helper()
	if got != want {
		t.Fatalf("%s: %d, not %d", what, got, want)
	}
}

// made gives the inodes of a disk of n sectors, of which none is in use; all is committed.
func made(t *testing.T, n int) (*disk.Disk, *alloc.Space, *inode.Table) {
	t.Helper()
	y, e := alloc.Lay(n)
	mustBe(t, "Lay", e, api.OK)
	d := disk.New(n)
	mustBe(t, "the log's Format", wal.Format(d, y.Log, y.LogLen), api.OK)
	l, e := wal.Open(d, y.Log, y.LogLen)
	mustBe(t, "the log's Open", e, api.OK)
	mustBe(t, "Format", alloc.Format(l, n), api.OK)
	mustCommit(t, l)
	s := opened(t, d)
	return d, s, inode.Over(s)
}

// opened gives the space that stands on a disk.
func opened(t *testing.T, d *disk.Disk) *alloc.Space {
	t.Helper()
	y, e := alloc.Lay(d.Len())
	mustBe(t, "Lay", e, api.OK)
	l, e := wal.Open(d, y.Log, y.LogLen)
	mustBe(t, "the log's Open", e, api.OK)
	s, e := alloc.Open(l, d.Len())
	mustBe(t, "Open", e, api.OK)
	return s
}

func mustCommit(t *testing.T, l *wal.Log) {
	t.Helper()
	mustBe(t, "Commit", l.Commit(), api.OK)
}

func mustNew(t *testing.T, x *inode.Table, kind, want int) {
	t.Helper()
	i, e := x.New(kind)
	if i != want || e != api.OK {
		t.Fatalf("New(%d): %d, %d, not %d", kind, i, e, want)
	}
}

func mustGet(t *testing.T, x *inode.Table, i int, want api.Inode) {
	t.Helper()
	g, e := x.Get(i)
	if g != want || e != api.OK {
		t.Fatalf("Get(%d): %v, %d, not %v", i, g, e, want)
	}
}

func mustWrite(t *testing.T, x *inode.Table, i, at int, b string) {
	t.Helper()
	mustBe(t, "Write", x.Write(i, at, []byte(b)), api.OK)
}

// put writes b in pieces, each committed by itself, since a log may be too small for all of them.
func put(t *testing.T, s *alloc.Space, x *inode.Table, i, at int, b []byte) {
	t.Helper()
	for len(b) > 0 {
		n := min(len(b), 4*api.SectorSize)
		mustBe(t, "Write", x.Write(i, at, b[:n]), api.OK)
		mustCommit(t, s.Log())
		at, b = at+n, b[n:]
	}
}

func mustRead(t *testing.T, x *inode.Table, i, at, n int, want string) {
	t.Helper()
	b, e := x.Read(i, at, n)
	if string(b) != want || e != api.OK {
		t.Fatalf("Read(%d, %d, %d): %q, %d, not %q", i, at, n, b, e, want)
	}
}

func mustTruncate(t *testing.T, x *inode.Table, i, size int) {
	t.Helper()
	mustBe(t, "Truncate", x.Truncate(i, size), api.OK)
}

func mustHaveBlocks(t *testing.T, x *inode.Table, i int, want ...int) {
	t.Helper()
	b, e := x.Blocks(i)
	if !slices.Equal(b, want) || e != api.OK {
		t.Fatalf("Blocks(%d): %v, %d, not %v", i, b, e, want)
	}
}

// mustLeave asks how many blocks and inodes are not in use.
func mustLeave(t *testing.T, s *alloc.Space, blocks, inodes int) {
	t.Helper()
	b, e := s.Blocks()
	mustBe(t, "Blocks", e, api.OK)
	i, e := s.Inodes()
	mustBe(t, "Inodes", e, api.OK)
	if b != blocks || i != inodes {
		t.Fatalf("%d blocks and %d inodes are left, not %d and %d", b, i, blocks, inodes)
	}
}

func mustBeStaged(t *testing.T, s *alloc.Space, want int) {
	t.Helper()
	if n := s.Log().Staged(); n != want {
		t.Fatalf("%d are staged, not %d", n, want)
	}
}

// sector gives a sector as the log tells it.
func sector(t *testing.T, s *alloc.Space, i int) []byte {
	t.Helper()
	b, e := s.Log().Read(i)
	mustBe(t, "the log's Read", e, api.OK)
	return b
}

func two(b []byte, at int) int { return int(b[at]) + 256*int(b[at+1]) }

// raw is an inode as its bytes on the disk say it, by the chapter's words.
type raw struct {
	kind, links, size int
	parts             map[int]int // each part that has a block, and which
	indexes           []int       // and the double index, if there is one, behind them
}

// rawOf reads an inode sector by sector, and refuses what the chapter does not let it be.
func rawOf(t *testing.T, s *alloc.Space, i int) raw {
	t.Helper()
	b := sector(t, s, s.Layout().Table+i/4)[32*(i%4):][:32]
	for _, k := range []int{1, 28, 29, 30, 31} {
		if b[k] != 0 {
			t.Fatalf("the byte %d of the inode %d: %v", k, i, b)
		}
	}
	r := raw{kind: int(b[0]), links: two(b, 2), size: two(b, 4) + 65536*two(b, 6), parts: map[int]int{}}
	for k := range 8 {
		if n := two(b, 8+2*k); n != 0 {
			r.parts[k] = n
		}
	}
	if n := two(b, 24); n != 0 {
		r.index(t, s, n, 8)
	}
	if n := two(b, 26); n != 0 {
		inner := sector(t, s, n)
		if bytes.Equal(inner, full(0)) {
			t.Fatalf("the double index of %d has no numbers", i)
		}
		for k := range 64 {
			if m := two(inner, 2*k); m != 0 {
				r.index(t, s, m, 72+64*k)
			}
		}
		r.indexes = append(r.indexes, n)
	}
	return r
}

func (r *raw) index(t *testing.T, s *alloc.Space, n, first int) {
	t.Helper()
	b := sector(t, s, n)
	if bytes.Equal(b, full(0)) {
		t.Fatalf("the index %d has no numbers", n)
	}
	for k := range 64 {
		if m := two(b, 2*k); m != 0 {
			r.parts[first+k] = m
		}
	}
	r.indexes = append(r.indexes, n)
}

// bytes reads what the blocks say, up to the size; behind it all must be 0.
func (r raw) bytes(t *testing.T, s *alloc.Space) []byte {
	t.Helper()
	out := make([]byte, api.MaxFile)
	for k, b := range r.parts {
		copy(out[api.SectorSize*k:], sector(t, s, b))
	}
	for _, c := range out[r.size:] {
		if c != 0 {
			t.Fatal("a byte behind the size is not 0")
		}
	}
	return out[:r.size]
}

// blocks gives all blocks, rising.
func (r raw) blocks() []int {
	out := slices.Clone(r.indexes)
	for _, b := range r.parts {
		out = append(out, b)
	}
	slices.Sort(out)
	return out
}

// fill stages the last sectors of a disk till the log has room for just so many more.
func fill(t *testing.T, s *alloc.Space, room int) {
	t.Helper()
	l, last := s.Log(), s.Layout().Sectors-1
	most := 0
	for l.Stage(last-most, full(0)) == api.OK {
		most++
	}
	l.Drop()
	for k := range most - room {
		mustBe(t, "Stage", l.Stage(last-k, full(0)), api.OK)
	}
}

func TestExamples(t *testing.T) {
	_, _, x := made(t, 64)
	mustNew(t, x, 1, 1)
	mustWrite(t, x, 1, 0, "abc")
	mustRead(t, x, 1, 1, 9, "bc")
	mustGet(t, x, 1, api.Inode{Kind: 1, Size: 3})
	mustWrite(t, x, 1, 300, "x")
	mustRead(t, x, 1, 2, 3, "c\x00\x00")
	mustHaveBlocks(t, x, 1, 23, 24)
	mustTruncate(t, x, 1, 1)
	mustTruncate(t, x, 1, 3)
	mustRead(t, x, 1, 0, 9, "a\x00\x00")
	mustHaveBlocks(t, x, 1, 23)
	mustBe(t, "Write", x.Write(1, 16384, []byte("x")), api.ErrBig)
	mustBe(t, "Write", x.Write(1, 16384, nil), api.OK)
	if b, e := x.Read(2, 0, 1); len(b) != 0 || e != api.ErrInode {
		t.Fatal("Read", b, e)
	}
	if i, e := x.New(4); i != 0 || e != api.ErrArg {
		t.Fatal("New", i, e)
	}
	mustWrite(t, x, 1, 1024, "x")
	mustHaveBlocks(t, x, 1, 23, 24, 25)
}

func TestI1NewRises(t *testing.T) {
	_, s, x := made(t, 68) // 17 inodes, so that the last one stands alone in its sector
	for i := 1; i < 17; i++ {
		kind := 1 + i%3
		mustNew(t, x, kind, i)
		mustGet(t, x, i, api.Inode{Kind: kind})
		mustHaveBlocks(t, x, i)
		mustRead(t, x, i, 0, 9, "")
		mustLeave(t, s, 44, 16-i)
	}
	if i, e := x.New(1); i != 0 || e != api.ErrNoSpace {
		t.Fatal("New", i, e)
	}
}

func TestI1NewRefuses(t *testing.T) {
	d, s, x := made(t, 64)
	for _, kind := range []int{math.MinInt, -1, 0, 4, 5, 256 + 1, 1<<32 + 1, math.MaxInt} {
		if i, e := x.New(kind); i != 0 || e != api.ErrArg {
			t.Fatalf("New(%d): %d, %d", kind, i, e)
		}
	}
	mustBeStaged(t, s, 0)
	mustLeave(t, s, 41, 15)
	for range 15 {
		x.New(1)
	}
	if i, e := x.New(9); i != 0 || e != api.ErrArg {
		t.Fatal("New", i, e)
	}
	d.Crash(0)
	if i, e := x.New(0); i != 0 || e != api.ErrArg {
		t.Fatal("New", i, e)
	}
}

// The least one that is not in use is given, with nothing of what it was.
func TestI1NewGivesTheLeast(t *testing.T) {
	_, s, x := made(t, 64)
	for i := 1; i < 8; i++ {
		mustNew(t, x, api.KindDir, i)
		mustWrite(t, x, i, 0, "old")
	}
	mustBe(t, "Link", x.Link(3), api.OK)
	mustBe(t, "Unlink", x.Unlink(3), api.OK)
	mustBe(t, "Unlink", x.Unlink(6), api.OK)
	for _, i := range []int{3, 6, 8} {
		mustNew(t, x, api.KindLink, i)
		mustGet(t, x, i, api.Inode{Kind: api.KindLink})
		mustHaveBlocks(t, x, i)
		mustRead(t, x, i, 0, 9, "")
	}
	mustRead(t, x, 2, 0, 9, "old")
	mustRead(t, x, 4, 0, 9, "old")
	mustLeave(t, s, 36, 7)
}

// Bytes by the chapter's words, next to other inodes of the same sector, which stay as they are.
func TestI1BytesOfAnInode(t *testing.T) {
	_, s, x := made(t, 1024)
	for i := 1; i < 8; i++ {
		mustNew(t, x, 1+i%3, i)
	}
	for range 300 {
		mustBe(t, "Link", x.Link(5), api.OK)
	}
	for k := range 8 {
		mustWrite(t, x, 5, 128*k, "x")
	}
	mustWrite(t, x, 5, 1024+128*2, "y")
	mustWrite(t, x, 5, 9216+128*3, "z")
	b := sector(t, s, 132)
	want := make([]byte, 128)
	want[0], want[64], want[96] = 2, 1, 2
	want[32], want[34], want[35] = 3, 300-256, 1
	want[36], want[37] = (9216+384+1)%256, (9216+384+1)/256
	for k := range 8 {
		want[40+2*k] = byte(163 + k)
	}
	got := slices.Clone(b)
	clear(got[56:60]) // the index and the double index: which of the next blocks they are is not said
	if !bytes.Equal(got, want) {
		t.Fatalf("%v, not %v", got, want)
	}
	r := rawOf(t, s, 5)
	if !slices.Equal(r.blocks(), []int{163, 164, 165, 166, 167, 168, 169, 170, 171, 172, 173, 174, 175}) || len(r.indexes) != 3 {
		t.Fatal(r)
	}
	if c := sector(t, s, r.parts[10]); c[0] != 'y' {
		t.Fatal("part 10", c)
	}
	if c := sector(t, s, r.parts[75]); c[0] != 'z' {
		t.Fatal("part 75", c)
	}
}

func TestI1LinkAndUnlink(t *testing.T) {
	_, s, x := made(t, 64)
	mustNew(t, x, 1, 1)
	mustWrite(t, x, 1, 0, "abc")
	for k := range 1000 {
		mustGet(t, x, 1, api.Inode{Kind: 1, Links: k, Size: 3})
		mustBe(t, "Link", x.Link(1), api.OK)
	}
	mustCommit(t, s.Log())
	mustBe(t, "Link", x.Link(1), api.ErrFull)
	mustBeStaged(t, s, 0)
	for k := 1000; k > 1; k-- {
		mustGet(t, x, 1, api.Inode{Kind: 1, Links: k, Size: 3})
		mustBe(t, "Unlink", x.Unlink(1), api.OK)
	}
	mustBe(t, "Link", x.Link(1), api.OK)
	mustBe(t, "Unlink", x.Unlink(1), api.OK)
	mustGet(t, x, 1, api.Inode{Kind: 1, Links: 1, Size: 3})
	mustRead(t, x, 1, 0, 9, "abc")
	mustLeave(t, s, 40, 14)
	mustBe(t, "Unlink", x.Unlink(1), api.OK)
	mustLeave(t, s, 41, 15)
	mustBe(t, "Unlink", x.Unlink(1), api.ErrInode)
}

// One that has no links at all is freed by its first Unlink.
func TestI1UnlinkWithoutLinks(t *testing.T) {
	_, s, x := made(t, 64)
	mustNew(t, x, 1, 1)
	mustNew(t, x, 2, 2)
	mustWrite(t, x, 1, 0, "abc")
	mustWrite(t, x, 2, 0, "def")
	mustBe(t, "Unlink", x.Unlink(1), api.OK)
	mustLeave(t, s, 40, 14)
	mustGet(t, x, 2, api.Inode{Kind: 2, Size: 3})
	mustRead(t, x, 2, 0, 9, "def")
	mustHaveBlocks(t, x, 2, 24)
	if g, e := x.Get(1); g != (api.Inode{}) || e != api.ErrInode {
		t.Fatal("Get", g, e)
	}
}

// The last Unlink frees parts of all three sorts, and their indexes.
func TestI1UnlinkFreesAll(t *testing.T) {
	_, s, x := made(t, 1024)
	mustNew(t, x, 1, 1)
	put(t, s, x, 1, 0, bytes.Repeat([]byte("abcdefg"), api.MaxFile/7))
	mustWrite(t, x, 1, api.MaxFile-1, "x")
	mustCommit(t, s.Log())
	mustLeave(t, s, 861-131, 126)
	mustBe(t, "Link", x.Link(1), api.OK)
	mustBe(t, "Unlink", x.Unlink(1), api.OK)
	mustLeave(t, s, 861, 127)
	mustBeStaged(t, s, 3) // both maps, and the sector in which the link was
}

// Each call but New refuses what is no inode in use, ahead of all else that is wrong.
func TestInodesThatAreNone(t *testing.T) {
	d, s, x := made(t, 64)
	mustNew(t, x, 1, 1)
	mustNew(t, x, 1, 2)
	mustBe(t, "Unlink", x.Unlink(2), api.OK)
	mustCommit(t, s.Log())
	check := func(i int) {
		t.Helper()
		if g, e := x.Get(i); g != (api.Inode{}) || e != api.ErrInode {
			t.Fatal("Get", i, g, e)
		}
		for _, at := range []int{-1, 0, math.MaxInt} {
			if b, e := x.Read(i, at, 1); len(b) != 0 || e != api.ErrInode {
				t.Fatal("Read", i, b, e)
			}
			mustBe(t, "Write", x.Write(i, at, []byte("x")), api.ErrInode)
			mustBe(t, "Write", x.Write(i, at, nil), api.ErrInode)
			mustBe(t, "Truncate", x.Truncate(i, at), api.ErrInode)
		}
		mustBe(t, "Link", x.Link(i), api.ErrInode)
		mustBe(t, "Unlink", x.Unlink(i), api.ErrInode)
		if b, e := x.Blocks(i); len(b) != 0 || e != api.ErrInode {
			t.Fatal("Blocks", i, b, e)
		}
		mustBeStaged(t, s, 0)
	}
	none := []int{math.MinInt, -4, -1, 0, 16, 17, 64, 128, 1<<32 + 1, math.MaxInt}
	for _, i := range append(none, 2, 3, 15) {
		check(i)
	}
	mustGet(t, x, 1, api.Inode{Kind: 1})
	d.Crash(0)
	for _, i := range none {
		check(i)
	}
}

func TestI2ReadAtEdges(t *testing.T) {
	_, _, x := made(t, 64)
	mustNew(t, x, 1, 1)
	text := make([]byte, 300)
	for k := range text {
		text[k] = byte(k%251 + 1)
	}
	mustWrite(t, x, 1, 0, string(text))
	places := []int{0, 1, 126, 127, 128, 129, 255, 256, 257, 298, 299, 300, 301, 512, 16384, math.MaxInt - 1, math.MaxInt}
	for _, at := range places {
		for _, n := range places {
			want := text[min(at, 300):]
			mustRead(t, x, 1, at, n, string(want[:min(n, len(want))]))
		}
	}
	for _, bad := range [][2]int{{-1, 0}, {0, -1}, {-1, -1}, {math.MinInt, 1}, {1, math.MinInt}, {400, -1}} {
		if b, e := x.Read(1, bad[0], bad[1]); len(b) != 0 || e != api.ErrRange {
			t.Fatal("Read", bad, b, e)
		}
	}
}

// Nothing is staged by what only asks.
func TestI2AskingStagesNothing(t *testing.T) {
	_, s, x := made(t, 1024)
	mustNew(t, x, 1, 1)
	for _, k := range []int{0, 3, 8, 70, 72, 127} {
		mustWrite(t, x, 1, 128*k, "x")
	}
	mustCommit(t, s.Log())
	x.Get(1)
	x.Read(1, 0, api.MaxFile)
	x.Blocks(1)
	x.Write(1, 5, nil)
	x.Truncate(1, 127*128+1)
	mustBeStaged(t, s, 0)
}

func TestI2WriteRefuses(t *testing.T) {
	_, s, x := made(t, 1024)
	mustNew(t, x, 1, 1)
	mustWrite(t, x, 1, 0, "abc")
	mustCommit(t, s.Log())
	for _, w := range []struct {
		at, n int
		want  api.Errno
	}{
		{-1, 0, api.ErrRange}, {-1, 1, api.ErrRange}, {math.MinInt, 1, api.ErrRange}, {-1, api.MaxFile + 2, api.ErrRange},
		{0, 0, api.OK}, {api.MaxFile, 0, api.OK}, {api.MaxFile + 1, 0, api.OK}, {math.MaxInt, 0, api.OK},
		{0, api.MaxFile + 1, api.ErrBig}, {1, api.MaxFile, api.ErrBig}, {api.MaxFile, 1, api.ErrBig}, {api.MaxFile - 1, 2, api.ErrBig},
		{math.MaxInt, 1, api.ErrBig}, {math.MaxInt - 1, 2, api.ErrBig}, {math.MaxInt, 2 * api.MaxFile, api.ErrBig},
	} {
		if e := x.Write(1, w.at, make([]byte, w.n)); e != w.want {
			t.Fatalf("Write at %d of %d: %d, not %d", w.at, w.n, e, w.want)
		}
		mustBeStaged(t, s, 0)
	}
	mustGet(t, x, 1, api.Inode{Kind: 1, Size: 3})
	mustRead(t, x, 1, 0, 9, "abc")
	mustBe(t, "Write", x.Write(1, api.MaxFile-1, []byte("z")), api.OK)
	mustGet(t, x, 1, api.Inode{Kind: 1, Size: api.MaxFile})
	mustRead(t, x, 1, api.MaxFile-2, 9, "\x00z")
}

// A write of n bytes at a place, over what was there, for places and lengths next to the ends of parts, and next to where an index begins.
func TestI2WriteAtEdges(t *testing.T) {
	for _, base := range []int{0, 128, 1024, 9216, 16384 - 256} {
		for _, off := range []int{-129, -128, -127, -1, 0, 1, 127, 128} {
			for _, n := range []int{1, 2, 127, 128, 129, 256, 300} {
				at := base + off
				if at < 0 || at+n > api.MaxFile {
					continue
				}
				writeAt(t, at, n, 0)
				writeAt(t, at, n, at+n/2)
				writeAt(t, at, n, min(at+n+200, api.MaxFile))
			}
		}
	}
}

// writeAt holds a file of that size, with holes, against a plain row of bytes.
func writeAt(t *testing.T, at, n, size int) {
	t.Helper()
	_, s, x := made(t, 128)
	mustNew(t, x, 1, 1)
	plain := make([]byte, size, api.MaxFile)
	if size > 0 {
		from := max(0, size-250)
		for k := from; k < size; k++ {
			plain[k] = byte(1 + k%250)
		}
		mustWrite(t, x, 1, from, string(plain[from:]))
	}
	piece := make([]byte, n)
	for k := range piece {
		piece[k] = byte(255 - k%250)
	}
	mustWrite(t, x, 1, at, string(piece))
	if at+n > size {
		plain = plain[:at+n]
	}
	copy(plain[at:], piece)
	mustRead(t, x, 1, 0, api.MaxFile, string(plain))
	mustGet(t, x, 1, api.Inode{Kind: 1, Size: len(plain)})
	if b := rawOf(t, s, 1).bytes(t, s); !bytes.Equal(b, plain) {
		t.Fatalf("at %d, %d bytes, size %d: blocks say otherwise than Read", at, n, size)
	}
}

// Each part that is written has a block, also if noughts were written; what lies between has none.
func TestI2JustWhatIsWrittenHasABlock(t *testing.T) {
	_, s, x := made(t, 1024)
	mustNew(t, x, 1, 1)
	want := map[int]struct{}{}
	for _, k := range []int{5, 71, 8, 127, 0, 72, 7, 100} {
		mustBe(t, "Write", x.Write(1, 128*k+127, []byte{0}), api.OK)
		want[k] = struct{}{}
		r := rawOf(t, s, 1)
		if len(r.parts) != len(want) {
			t.Fatal(r.parts)
		}
		for k := range want {
			if r.parts[k] == 0 {
				t.Fatal("no block of", k)
			}
		}
	}
	mustBe(t, "Write", x.Write(1, 128*20+127, make([]byte, 2)), api.OK) // two parts more
	if r := rawOf(t, s, 1); len(r.parts) != 10 || r.parts[20] == 0 || r.parts[21] == 0 {
		t.Fatal(r.parts)
	}
}

// Blocks are those that alloc gives: the least ones.
func TestI2TheLeastBlocksAreTaken(t *testing.T) {
	_, _, x := made(t, 64)
	mustNew(t, x, 1, 1)
	mustNew(t, x, 1, 2)
	mustWrite(t, x, 1, 0, "a")
	mustWrite(t, x, 2, 0, "b")
	mustWrite(t, x, 1, 128, "a")
	mustWrite(t, x, 2, 1024, "b")
	mustHaveBlocks(t, x, 1, 23, 25)
	mustHaveBlocks(t, x, 2, 24, 26, 27)
	mustTruncate(t, x, 1, 0)
	mustHaveBlocks(t, x, 1)
	mustWrite(t, x, 2, 512, "b")
	mustWrite(t, x, 2, 640, "b")
	mustWrite(t, x, 2, 640, "c") // in place
	mustHaveBlocks(t, x, 2, 23, 24, 25, 26, 27)
}

func TestI2WhatIsStaged(t *testing.T) {
	_, s, x := made(t, 64)
	step := func(what string, e api.Errno, want int) {
		t.Helper()
		mustBe(t, what, e, api.OK)
		if n := s.Log().Staged(); n != want {
			t.Fatalf("%s stages %d, not %d", what, n, want)
		}
		mustCommit(t, s.Log())
	}
	_, e := x.New(1)
	step("New", e, 2)
	step("a new part", x.Write(1, 0, []byte("abc")), 3)
	step("over it", x.Write(1, 0, []byte("x")), 1)
	step("a longer one", x.Write(1, 2, []byte("xx")), 2)
	step("the first of an index", x.Write(1, 1024, []byte("x")), 4)
	step("the second of it", x.Write(1, 1152, []byte("x")), 4)
	step("the first of the double index", x.Write(1, 9216, []byte("x")), 5)
	step("the second of it", x.Write(1, 9344, []byte("x")), 4)
	step("cut by a part", x.Truncate(1, 9344), 3)
	step("cut by a byte", x.Truncate(1, 9343), 1)
	step("cut to a byte", x.Truncate(1, 9217), 1)
	step("cut of the double index", x.Truncate(1, 9216), 2)
	step("cut into an index", x.Truncate(1, 1025), 3)
	step("cut of a byte that is not 0", x.Truncate(1, 1024), 2)
	step("longer", x.Truncate(1, 5000), 1)
	step("as it is", x.Truncate(1, 5000), 0)
	step("Link", x.Link(1), 1)
	step("Link", x.Link(1), 1)
	step("Unlink", x.Unlink(1), 1)
	step("the last Unlink", x.Unlink(1), 2)
}

func TestI3TruncateRefuses(t *testing.T) {
	_, s, x := made(t, 64)
	mustNew(t, x, 1, 1)
	mustWrite(t, x, 1, 0, "abc")
	mustCommit(t, s.Log())
	for size, want := range map[int]api.Errno{
		-1: api.ErrRange, math.MinInt: api.ErrRange,
		api.MaxFile + 1: api.ErrBig, math.MaxInt: api.ErrBig, 1 << 32: api.ErrBig,
	} {
		mustBe(t, "Truncate", x.Truncate(1, size), want)
		mustBeStaged(t, s, 0)
	}
	mustGet(t, x, 1, api.Inode{Kind: 1, Size: 3})
	mustTruncate(t, x, 1, api.MaxFile)
	mustGet(t, x, 1, api.Inode{Kind: 1, Size: api.MaxFile})
	mustRead(t, x, 1, 0, api.MaxFile, "abc"+string(make([]byte, api.MaxFile-3)))
	mustHaveBlocks(t, x, 1, 23)
	mustTruncate(t, x, 1, 0)
	mustGet(t, x, 1, api.Inode{Kind: 1})
	mustHaveBlocks(t, x, 1)
	mustLeave(t, s, 41, 14)
}

// A whole file is cut to each size near the ends of parts and indexes, and grows again.
func TestI3TruncateAtEdges(t *testing.T) {
	_, s, x := made(t, 256)
	mustNew(t, x, 1, 1)
	whole := make([]byte, api.MaxFile)
	for k := range whole {
		whole[k] = byte(1 + k%255)
	}
	put(t, s, x, 1, 0, whole)
	mustLeave(t, s, 256-51-131, 62)
	sizes := []int{16384, 16383, 16257, 16256, 16255, 9345, 9344, 9343, 9217, 9216, 9215, 1153, 1152, 1151, 1025, 1024, 1023, 897, 896, 129, 128, 127, 1, 0}
	for _, size := range sizes {
		mustTruncate(t, x, 1, size)
		mustGet(t, x, 1, api.Inode{Kind: 1, Size: size})
		mustRead(t, x, 1, 0, api.MaxFile, string(whole[:size]))
		r := rawOf(t, s, 1)
		have := (size + 127) / 128
		if len(r.parts) != have {
			t.Fatalf("at size %d there are %d parts", size, len(r.parts))
		}
		indexes := 0
		if have > 8 {
			indexes++
		}
		if have > 72 {
			indexes += 2
		}
		if len(r.indexes) != indexes {
			t.Fatalf("at size %d there are %d indexes", size, len(r.indexes))
		}
		mustLeave(t, s, 256-51-have-indexes, 62)
		mustTruncate(t, x, 1, api.MaxFile)
		mustRead(t, x, 1, 0, api.MaxFile, string(whole[:size])+string(make([]byte, api.MaxFile-size)))
		mustTruncate(t, x, 1, size)
		mustCommit(t, s.Log())
	}
}

// A file that grows by Write behind a cut shows nothing of what was cut.
func TestI3NothingOfACutIsSeen(t *testing.T) {
	_, _, x := made(t, 64)
	mustNew(t, x, 1, 1)
	mustWrite(t, x, 1, 0, "abcdefgh")
	mustTruncate(t, x, 1, 2)
	mustWrite(t, x, 1, 5, "x")
	mustRead(t, x, 1, 0, 99, "ab\x00\x00\x00x")
	mustTruncate(t, x, 1, 0)
	mustWrite(t, x, 1, 3, "y")
	mustRead(t, x, 1, 0, 99, "\x00\x00\x00y")
}

// A cut within a hole changes no block.
func TestI3CutOfAHole(t *testing.T) {
	_, s, x := made(t, 64)
	mustNew(t, x, 1, 1)
	mustWrite(t, x, 1, 0, "a")
	mustWrite(t, x, 1, 9300, "z")
	mustTruncate(t, x, 1, 5000)
	mustHaveBlocks(t, x, 1, 23)
	mustLeave(t, s, 40, 14)
	mustTruncate(t, x, 1, 300)
	mustHaveBlocks(t, x, 1, 23)
	mustGet(t, x, 1, api.Inode{Kind: 1, Size: 300})
}

// A cut leaves other numbers of the same index as they are.
func TestI3CutWithinAnIndex(t *testing.T) {
	_, s, x := made(t, 64)
	mustNew(t, x, 1, 1)
	for _, k := range []int{8, 20, 71, 72, 90, 127} {
		mustWrite(t, x, 1, 128*k, "x")
		mustCommit(t, s.Log())
	}
	for _, c := range []struct {
		size, parts, indexes int
	}{{127 * 128, 5, 3}, {91 * 128, 5, 3}, {90 * 128, 4, 3}, {73 * 128, 4, 3}, {72 * 128, 3, 1}, {71 * 128, 2, 1}, {8*128 + 1, 1, 1}, {8 * 128, 0, 0}} {
		mustTruncate(t, x, 1, c.size)
		r := rawOf(t, s, 1)
		if len(r.parts) != c.parts || len(r.indexes) != c.indexes {
			t.Fatalf("at size %d: %v", c.size, r)
		}
		mustLeave(t, s, 41-c.parts-c.indexes, 14)
	}
}

func TestI4BlocksRise(t *testing.T) {
	_, s, x := made(t, 1024)
	mustNew(t, x, 1, 1)
	mustNew(t, x, 1, 2)
	// By turns, from behind, so that neither the parts' blocks nor the indexes rise.
	for k := 127; k >= 0; k-- {
		mustWrite(t, x, 1+k%2, 128*k, "x")
		mustCommit(t, s.Log())
	}
	mustWrite(t, x, 1, 127*128, "x")
	seen := map[int]int{}
	for i := 1; i <= 2; i++ {
		b, e := x.Blocks(i)
		mustBe(t, "Blocks", e, api.OK)
		if !slices.IsSorted(b) || !slices.Equal(b, rawOf(t, s, i).blocks()) {
			t.Fatal(b)
		}
		for _, k := range b {
			seen[k]++
		}
	}
	if len(seen) != 128+1+6 {
		t.Fatal(len(seen), "blocks")
	}
	for b, n := range seen {
		if has, _ := s.Has(b); n != 1 || !has {
			t.Fatal("the block", b, n, has)
		}
	}
	mustLeave(t, s, 861-135, 125)
}

// occupy takes all blocks but so many.
func occupy(t *testing.T, s *alloc.Space, but int) {
	t.Helper()
	n, e := s.Blocks()
	mustBe(t, "Blocks", e, api.OK)
	for range n - but {
		_, e := s.Block()
		mustBe(t, "Block", e, api.OK)
		mustCommit(t, s.Log())
	}
}

// Of each write it is known how many blocks it takes: with one fewer it is refused, with just so many it is not.
func TestI5NoSpace(t *testing.T) {
	for _, c := range []struct {
		have        []int // parts that there are
		at, n, need int
	}{
		{nil, 0, 1, 1}, {nil, 127, 2, 2}, {nil, 0, 1024, 8}, {nil, 1023, 1, 1},
		{nil, 1024, 1, 2}, {nil, 1023, 2, 3}, {nil, 0, 1025, 10}, {nil, 1024, 256, 3},
		{nil, 9215, 1, 2}, {nil, 9216, 1, 3}, {nil, 9215, 2, 5}, {nil, 9216, 512, 6}, {nil, api.MaxFile - 1, 1, 3},
		{[]int{0}, 0, 128, 0}, {[]int{0}, 0, 129, 1}, {[]int{9}, 1024, 128, 1}, {[]int{9}, 1024, 256, 1}, {[]int{9}, 1024, 384, 2},
		{[]int{72}, 9344, 1, 1}, {[]int{72}, 9215, 1, 2}, {[]int{72}, 9215, 2, 2}, {[]int{71}, 9215, 2, 3}, {[]int{127}, 9216, 128, 1},
	} {
		for but := range c.need + 2 {
			_, s, x := made(t, 128)
			mustNew(t, x, 1, 1)
			for _, k := range c.have {
				mustWrite(t, x, 1, 128*k, "x")
			}
			mustCommit(t, s.Log())
			occupy(t, s, but)
			before, _ := x.Blocks(1)
			e := x.Write(1, c.at, bytes.Repeat([]byte("w"), c.n))
			if but < c.need {
				mustBe(t, "Write", e, api.ErrNoSpace)
				s.Log().Drop()
				mustLeave(t, s, but, 31-1)
				mustHaveBlocks(t, x, 1, before...)
				continue
			}
			mustBe(t, "Write", e, api.OK)
			mustLeave(t, s, but-c.need, 31-1)
			mustRead(t, x, 1, c.at, c.n, string(bytes.Repeat([]byte("w"), c.n)))
		}
	}
}

// Where blocks are too few, that is told also if the log would be full.
func TestI5NoSpaceAheadOfALogThatIsFull(t *testing.T) {
	_, s, x := made(t, 64)
	mustNew(t, x, 1, 1)
	mustCommit(t, s.Log())
	b := make([]byte, api.MaxFile)
	mustBe(t, "Write", x.Write(1, 0, b), api.ErrNoSpace)
	s.Log().Drop()
	mustBe(t, "Write", x.Write(1, 0, b[:41*128]), api.ErrNoSpace) // 41 and an index
	s.Log().Drop()
	mustBe(t, "Write", x.Write(1, 0, b[:40*128]), api.ErrLogFull)
	s.Log().Drop()
	fill(t, s, 0)
	mustBe(t, "Write", x.Write(1, 0, b[:41*128]), api.ErrNoSpace)
	mustBe(t, "Write", x.Write(1, 0, b[:40*128]), api.ErrLogFull)
	s.Log().Drop()
	mustGet(t, x, 1, api.Inode{Kind: 1})
	mustLeave(t, s, 41, 14)
}

func TestI5NoInodeAheadOfALogThatIsFull(t *testing.T) {
	_, s, x := made(t, 64)
	for i := 1; i < 16; i++ {
		mustNew(t, x, 1, i)
	}
	mustCommit(t, s.Log())
	fill(t, s, 0)
	if i, e := x.New(1); i != 0 || e != api.ErrNoSpace {
		t.Fatal("New", i, e)
	}
	s.Log().Drop()
	mustBe(t, "Unlink", x.Unlink(9), api.OK)
	mustNew(t, x, 1, 9)
}

// Of each call it is known how many sectors it stages: with room for one fewer it is refused, with room for just so many it is not.
func TestI5LogFull(t *testing.T) {
	for _, c := range []struct {
		what string
		call func(x *inode.Table) api.Errno
		need int
	}{
		{"New", func(x *inode.Table) api.Errno { _, e := x.New(2); return e }, 2},
		{"a part more", func(x *inode.Table) api.Errno { return x.Write(1, 128, []byte("x")) }, 3},
		{"over parts", func(x *inode.Table) api.Errno { return x.Write(1, 1024, make([]byte, 256)) }, 2},
		{"an index's part more", func(x *inode.Table) api.Errno { return x.Write(1, 2048, []byte("x")) }, 3},
		{"the double index's part more", func(x *inode.Table) api.Errno { return x.Write(1, 9344, []byte("x")) }, 4},
		{"five parts more", func(x *inode.Table) api.Errno { return x.Write(1, 128, make([]byte, 640)) }, 7},
		{"a cut", func(x *inode.Table) api.Errno { return x.Truncate(1, 1025) }, 4},
		{"longer", func(x *inode.Table) api.Errno { return x.Truncate(1, 10000) }, 1},
		{"Link", func(x *inode.Table) api.Errno { return x.Link(1) }, 1},
		{"Unlink", func(x *inode.Table) api.Errno { return x.Unlink(1) }, 2},
		{"nothing", func(x *inode.Table) api.Errno { return x.Truncate(1, 9217) }, 0},
	} {
		for room := range c.need + 1 {
			_, s, x := made(t, 128)
			mustNew(t, x, 1, 1)
			mustWrite(t, x, 1, 0, "abc")
			mustWrite(t, x, 1, 1024, "abc")
			mustWrite(t, x, 1, 1152, "abc")
			mustWrite(t, x, 1, 9216, "x")
			mustCommit(t, s.Log())
			before, _ := x.Read(1, 0, api.MaxFile)
			fill(t, s, room)
			staged := s.Log().Staged()
			if e := c.call(x); room < c.need && e != api.ErrLogFull || room == c.need && e != api.OK {
				t.Fatalf("%s, with room for %d: %d", c.what, room, e)
			}
			if room == c.need {
				mustBeStaged(t, s, staged+c.need)
			}
			s.Log().Drop()
			mustRead(t, x, 1, 0, api.MaxFile, string(before))
			mustGet(t, x, 1, api.Inode{Kind: 1, Size: 9217})
			mustLeave(t, s, 128-27-7, 30)
		}
	}
}

// All calls that ask the log tell its error, with nothing beside it.
func TestWithoutPower(t *testing.T) {
	d, s, x := made(t, 64)
	mustNew(t, x, 1, 1)
	mustWrite(t, x, 1, 0, "abc")
	mustCommit(t, s.Log())
	d.Crash(0)
	for range 2 {
		if i, e := x.New(1); i != 0 || e != api.ErrOff {
			t.Fatal("New", i, e)
		}
		if g, e := x.Get(1); g != (api.Inode{}) || e != api.ErrOff {
			t.Fatal("Get", g, e)
		}
		if b, e := x.Read(1, 0, 1); len(b) != 0 || e != api.ErrOff {
			t.Fatal("Read", b, e)
		}
		mustBe(t, "Write", x.Write(1, 0, []byte("x")), api.ErrOff)
		mustBe(t, "Truncate", x.Truncate(1, 0), api.ErrOff)
		mustBe(t, "Link", x.Link(1), api.ErrOff)
		mustBe(t, "Unlink", x.Unlink(1), api.ErrOff)
		if b, e := x.Blocks(1); len(b) != 0 || e != api.ErrOff {
			t.Fatal("Blocks", b, e)
		}
		d.Start() // the log stays dead
	}
	x = inode.Over(opened(t, d))
	mustRead(t, x, 1, 0, 9, "abc")
}

// What is handed in and what is answered is nobody else's.
func TestMemoryIsNotShared(t *testing.T) {
	_, _, x := made(t, 64)
	mustNew(t, x, 1, 1)
	b := []byte("abcdef")
	mustBe(t, "Write", x.Write(1, 0, b[:3]), api.OK)
	if string(b) != "abcdef" {
		t.Fatal("Write has changed what it was handed")
	}
	b[0] = 'z'
	mustRead(t, x, 1, 0, 9, "abc")
	one, _ := x.Read(1, 0, 9)
	one = append(one[:1], "yy"...)
	one[0] = 'y'
	mustRead(t, x, 1, 0, 9, "abc")
	blocks, _ := x.Blocks(1)
	blocks[0] = 99
	mustHaveBlocks(t, x, 1, 23)
}

// Two tables over one space tell the same.
func TestTablesOverOneSpace(t *testing.T) {
	_, s, x := made(t, 64)
	y := inode.Over(s)
	mustNew(t, x, 1, 1)
	mustWrite(t, y, 1, 0, "abc")
	mustRead(t, x, 1, 0, 9, "abc")
	mustBe(t, "Unlink", x.Unlink(1), api.OK)
	if _, e := y.Get(1); e != api.ErrInode {
		t.Fatal("Get", e)
	}
}

// Bytes that no call of this package has made end no call badly.
func TestHandMadeBytes(t *testing.T) {
	for _, c := range []byte{0, 1, 17, 19, 23, 63, 64, 200, 255} {
		_, s, x := made(t, 64)
		for i := 1; i < 8; i++ {
			mustNew(t, x, 1, i)
		}
		odd := bytes.Repeat([]byte{c, 0}, api.SectorSize/2)
		for _, i := range []int{19, 20, 23, 24} {
			mustBe(t, "Stage", s.Log().Stage(i, odd), api.OK)
			mustBe(t, "Stage", s.Log().Stage(20, full(c)), api.OK)
		}
		mustCommit(t, s.Log())
		for i := 1; i < 8; i++ {
			x.Get(i)
			x.Read(i, 0, 70000)
			x.Read(i, 15000, 600000)
			x.Blocks(i)
			x.Link(i)
			x.Write(i, 0, make([]byte, 1300))
			s.Log().Drop()
			x.Write(i, 9000, make([]byte, 500))
			s.Log().Drop()
			x.Truncate(i, 9300)
			x.Truncate(i, 5)
			s.Log().Drop()
			x.Unlink(i)
			x.Unlink(i)
			s.Log().Drop()
		}
	}
}
