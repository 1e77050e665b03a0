package alloc_test

import (
	"bytes"
	"math"
	"testing"

	"bootjack/alloc"
	"bootjack/api"
	"bootjack/disk"
	"bootjack/wal"
)

func full(c byte) []byte {
	return bytes.Repeat([]byte{c}, api.SectorSize)
}

// some gives a sector with these bytes ahead and noughts behind.
func some(b ...byte) []byte {
	return append(b, make([]byte, api.SectorSize-len(b))...)
}

// headOf gives the head by the chapter's words.
func headOf(n int) []byte {
	return some('r', 'o', 'o', 't', 'd', 'i', 's', 'k', byte(n%256), byte(n/256))
}

func mustBe(t *testing.T, what string, got, want api.Errno) {
	t.Helper()
	if got != want {
		t.Fatalf("%s: %d, not %d", what, got, want)
	}
}

func mustRead(t *testing.T, l *wal.Log, i int, want []byte) {
	t.Helper()
	b, e := l.Read(i)
	mustBe(t, "Read", e, api.OK)
	if !bytes.Equal(b, want) {
		t.Fatalf("sector %d: %v, not %v", i, b, want)
	}
}

func mustStage(t *testing.T, l *wal.Log, i int, b []byte) {
	t.Helper()
	mustBe(t, "Stage", l.Stage(i, b), api.OK)
}

func mustBeStaged(t *testing.T, l *wal.Log, want int) {
	t.Helper()
	if l.Staged() != want {
		t.Fatalf("%d are staged, not %d", l.Staged(), want)
	}
}

func mustCommit(t *testing.T, l *wal.Log) {
	t.Helper()
	mustBe(t, "Commit", l.Commit(), api.OK)
}

func mustLay(t *testing.T, n int) alloc.Layout {
	t.Helper()
	y, e := alloc.Lay(n)
	mustBe(t, "Lay", e, api.OK)
	return y
}

func mustOpen(t *testing.T, l *wal.Log, n int) *alloc.Space {
	t.Helper()
	s, e := alloc.Open(l, n)
	mustBe(t, "Open", e, api.OK)
	return s
}

func mustNotOpen(t *testing.T, l *wal.Log, n int, want api.Errno) {
	t.Helper()
	s, e := alloc.Open(l, n)
	mustBe(t, "Open", e, want)
	if s != nil {
		t.Fatal("Open tells a space beside an error")
	}
}

// mustTell asks for a number, or for an error with a 0 beside it.
func mustTell(t *testing.T, what string, call func() (int, api.Errno), want int, wantE api.Errno) {
	t.Helper()
	k, e := call()
	if k != want || e != wantE {
		t.Fatalf("%s: %d, %d, not %d, %d", what, k, e, want, wantE)
	}
}

// mustGive asks for a number.
func mustGive(t *testing.T, what string, call func() (int, api.Errno), want int) {
	t.Helper()
	mustTell(t, what, call, want, api.OK)
}

func mustHave(t *testing.T, what string, call func(int) (bool, api.Errno), k int, want bool) {
	t.Helper()
	has, e := call(k)
	if has != want || e != api.OK {
		t.Fatalf("%s(%d): %v, %d, not %v", what, k, has, e, want)
	}
}

func mustFree(t *testing.T, s *alloc.Space, b int) {
	t.Helper()
	mustBe(t, "Free", s.Free(b), api.OK)
}

func mustFreeInode(t *testing.T, s *alloc.Space, i int) {
	t.Helper()
	mustBe(t, "FreeInode", s.FreeInode(i), api.OK)
}

// bare gives a disk of n sectors with a new log where it belongs, and nothing else.
func bare(t *testing.T, n int) (*disk.Disk, *wal.Log) {
	t.Helper()
	y := mustLay(t, n)
	d := disk.New(n)
	mustBe(t, "the log's Format", wal.Format(d, y.Log, y.LogLen), api.OK)
	return d, reopened(t, d)
}

func reopened(t *testing.T, d *disk.Disk) *wal.Log {
	t.Helper()
	y := mustLay(t, d.Len())
	l, e := wal.Open(d, y.Log, y.LogLen)
	mustBe(t, "the log's Open", e, api.OK)
	return l
}

// made gives a space of n sectors in which nothing is in use, and which is committed.
func made(t *testing.T, n int) (*disk.Disk, *alloc.Space) {
	t.Helper()
	d, l := bare(t, n)
	mustBe(t, "Format", alloc.Format(l, n), api.OK)
	mustCommit(t, l)
	return d, mustOpen(t, l, n)
}

// fill stages the last sectors of a disk of n till the log has room for just so many more.
func fill(t *testing.T, l *wal.Log, n, room int) {
	t.Helper()
	most := 0
	for l.Stage(n-1-most, full(9)) == api.OK {
		most++
	}
	l.Drop()
	for k := range most - room {
		mustStage(t, l, n-1-k, full(9))
	}
}

func TestExamples(t *testing.T) {
	if y := mustLay(t, 64); y != (alloc.Layout{Sectors: 64, Log: 1, LogLen: 16, Map: 17, Nodes: 18, Table: 19, Inodes: 16, Data: 23}) {
		t.Error("Lay(64)", y)
	}
	if y := mustLay(t, 1024); y != (alloc.Layout{Sectors: 1024, Log: 1, LogLen: 128, Map: 129, Nodes: 130, Table: 131, Inodes: 128, Data: 163}) {
		t.Error("Lay(1024)", y)
	}
	_, s := made(t, 64)
	mustGive(t, "Blocks", s.Blocks, 41)
	mustGive(t, "Inodes", s.Inodes, 15)
	mustGive(t, "Block", s.Block, 23)
	mustGive(t, "Block", s.Block, 24)
	mustFree(t, s, 23)
	mustGive(t, "Block", s.Block, 23)
	mustGive(t, "Inode", s.Inode, 1)
	mustBe(t, "FreeInode", s.FreeInode(0), api.ErrInode)
}

// Each number that may be is laid by going through the disk sector by sector.
func TestA1Lay(t *testing.T) {
	for n := api.MinSectors; n <= api.MaxSectors; n++ {
		want := alloc.Layout{Sectors: n, Log: 1}
		for want.LogLen < 16 || 8*(want.LogLen+1) <= n {
			want.LogLen++
		}
		for want.Inodes < api.MaxInodes && 4*(want.Inodes+1) <= n {
			want.Inodes++
		}
		want.Map = 1 + want.LogLen
		want.Nodes = want.Map + 1
		want.Table = want.Nodes + 1
		want.Data = want.Table
		for i := range want.Inodes {
			if i%4 == 0 {
				want.Data++
			}
		}
		if y := mustLay(t, n); y != want {
			t.Fatalf("Lay(%d): %v, not %v", n, y, want)
		}
	}
}

func TestA1LayAtEdges(t *testing.T) {
	for n, want := range map[int]alloc.Layout{
		67:  {Sectors: 67, Log: 1, LogLen: 16, Map: 17, Nodes: 18, Table: 19, Inodes: 16, Data: 23},
		68:  {Sectors: 68, Log: 1, LogLen: 16, Map: 17, Nodes: 18, Table: 19, Inodes: 17, Data: 24},
		135: {Sectors: 135, Log: 1, LogLen: 16, Map: 17, Nodes: 18, Table: 19, Inodes: 33, Data: 28},
		136: {Sectors: 136, Log: 1, LogLen: 17, Map: 18, Nodes: 19, Table: 20, Inodes: 34, Data: 29},
		511: {Sectors: 511, Log: 1, LogLen: 63, Map: 64, Nodes: 65, Table: 66, Inodes: 127, Data: 98},
		512: {Sectors: 512, Log: 1, LogLen: 64, Map: 65, Nodes: 66, Table: 67, Inodes: 128, Data: 99},
		516: {Sectors: 516, Log: 1, LogLen: 64, Map: 65, Nodes: 66, Table: 67, Inodes: 128, Data: 99},
	} {
		if y := mustLay(t, n); y != want {
			t.Errorf("Lay(%d): %v, not %v", n, y, want)
		}
	}
}

var badSizes = []int{math.MinInt, -64, -1, 0, 1, 63, 1025, 65536 + 64, 1<<32 + 64, math.MaxInt}

func TestA1LayRefuses(t *testing.T) {
	for _, n := range badSizes {
		if y, e := alloc.Lay(n); e != api.ErrRange || y != (alloc.Layout{}) {
			t.Errorf("Lay(%d): %v, %d", n, y, e)
		}
	}
}

func TestA2FormatStages(t *testing.T) {
	for _, n := range []int{64, 65, 68, 255, 256, 300, 1023, 1024} {
		y := mustLay(t, n)
		d, l := bare(t, n)
		for _, i := range []int{0, y.Map, y.Nodes, y.Table, y.Data, n - 1} {
			mustStage(t, l, i, full(255))
		}
		mustCommit(t, l)
		deeds := d.Deeds()
		mustBe(t, "Format", alloc.Format(l, n), api.OK)
		mustBeStaged(t, l, 3)
		mustRead(t, l, 0, headOf(n))
		mustRead(t, l, y.Map, full(0))
		mustRead(t, l, y.Nodes, some(1))
		for _, i := range []int{y.Table, y.Data, n - 1} {
			mustRead(t, l, i, full(255))
		}
		if d.Deeds() != deeds {
			t.Fatal("Format has written")
		}
		l.Drop()
		mustRead(t, l, 0, full(255))
	}
}

func TestA2FormatRefuses(t *testing.T) {
	_, l := bare(t, 64)
	for _, n := range badSizes {
		mustBe(t, "Format", alloc.Format(l, n), api.ErrRange)
		mustNotOpen(t, l, n, api.ErrRange)
	}
	mustBeStaged(t, l, 0)
}

// What stands behind an error is not staged, what stands ahead of it is.
func TestA2FormatOfALogThatIsFull(t *testing.T) {
	for room := range 4 {
		_, l := bare(t, 128)
		fill(t, l, 128, room)
		staged := l.Staged()
		want := api.ErrLogFull
		if room == 3 {
			want = api.OK
		}
		mustBe(t, "Format", alloc.Format(l, 128), want)
		mustBeStaged(t, l, staged+room)
		wants := [][]byte{headOf(128), full(0), some(1)}
		for k, i := range []int{0, 17, 18} {
			if k < room {
				mustRead(t, l, i, wants[k])
			} else {
				mustRead(t, l, i, full(0))
			}
		}
	}
}

// Lay's error is told ahead of all that the log could say.
func TestA2OfADeadLog(t *testing.T) {
	d, s := made(t, 64)
	d.Crash(0)
	if _, e := s.Log().Read(0); e != api.ErrOff {
		t.Fatal("the log is not dead", e)
	}
	for _, n := range []int{63, 1025} {
		mustBe(t, "Format", alloc.Format(s.Log(), n), api.ErrRange)
		mustNotOpen(t, s.Log(), n, api.ErrRange)
	}
	mustBe(t, "Format", alloc.Format(s.Log(), 64), api.ErrOff)
	mustNotOpen(t, s.Log(), 64, api.ErrOff)
	mustBe(t, "Start", d.Start(), api.OK)
	mustBe(t, "Format", alloc.Format(s.Log(), 64), api.ErrOff)
	mustNotOpen(t, s.Log(), 64, api.ErrOff)
}

func TestA2OpenWithoutPower(t *testing.T) {
	d, s := made(t, 64)
	d.Crash(0)
	mustNotOpen(t, s.Log(), 64, api.ErrOff)
}

func TestA2OpenOfADamagedHead(t *testing.T) {
	_, s := made(t, 300)
	l := s.Log()
	for at := range api.SectorSize {
		for bit := range 8 {
			head := headOf(300)
			head[at] ^= 1 << bit
			mustStage(t, l, 0, head)
			mustNotOpen(t, l, 300, api.ErrDamaged)
		}
	}
	for _, head := range [][]byte{full(0), full(255), headOf(301), headOf(64), headOf(1024), some([]byte("bootjack")...)} {
		mustStage(t, l, 0, head)
		mustNotOpen(t, l, 300, api.ErrDamaged)
	}
	mustStage(t, l, 0, headOf(300))
	mustOpen(t, l, 300)
}

func TestA2OpenOfNothing(t *testing.T) {
	_, l := bare(t, 64)
	mustNotOpen(t, l, 64, api.ErrDamaged)
}

// A head that speaks of another number than the one that is asked for.
func TestA2OpenOfAnotherSize(t *testing.T) {
	_, s := made(t, 64)
	for n := api.MinSectors + 1; n <= api.MaxSectors; n++ {
		mustNotOpen(t, s.Log(), n, api.ErrDamaged)
	}
}

func TestA2OpenChangesNothing(t *testing.T) {
	d, s := made(t, 64)
	mustGive(t, "Block", s.Block, 23)
	deeds, staged := d.Deeds(), s.Log().Staged()
	again := mustOpen(t, s.Log(), 64)
	mustBeStaged(t, s.Log(), staged)
	if d.Deeds() != deeds {
		t.Fatal("Open has written")
	}
	mustHave(t, "Has", again.Has, 23, true)
}

// A head that is staged and not committed is one, too; what was dropped is none.
func TestA2OpenTellsWhatTheLogTells(t *testing.T) {
	_, l := bare(t, 64)
	mustBe(t, "Format", alloc.Format(l, 64), api.OK)
	mustOpen(t, l, 64)
	l.Drop()
	mustNotOpen(t, l, 64, api.ErrDamaged)
}

// A head and maps on the disk itself, written by hand.
func TestA2OpenOfWhatStandsOnTheDisk(t *testing.T) {
	d, l := bare(t, 64)
	for i, b := range map[int][]byte{0: headOf(64), 17: some(0x05), 18: some(0x0b)} {
		mustBe(t, "the disk's Write", d.Write(i, b), api.OK)
	}
	s := mustOpen(t, l, 64)
	mustGive(t, "Blocks", s.Blocks, 39)
	mustGive(t, "Inodes", s.Inodes, 13)
	mustGive(t, "Block", s.Block, 24)
	mustGive(t, "Block", s.Block, 26)
	mustGive(t, "Inode", s.Inode, 2)
	mustGive(t, "Inode", s.Inode, 4)
}

func TestA3BlocksRise(t *testing.T) {
	_, s := made(t, 64)
	l := s.Log()
	bits := full(0)
	for k := range 41 {
		mustHave(t, "Has", s.Has, 23+k, false)
		mustGive(t, "Blocks", s.Blocks, 41-k)
		mustGive(t, "Block", s.Block, 23+k)
		mustHave(t, "Has", s.Has, 23+k, true)
		bits[k/8] |= 1 << (k % 8)
		mustRead(t, l, 17, bits)
		mustBeStaged(t, l, 2)
		mustCommit(t, l)
	}
	mustTell(t, "Block", s.Block, 0, api.ErrNoSpace)
	mustGive(t, "Blocks", s.Blocks, 0)
	mustRead(t, l, 17, bits)
	mustBeStaged(t, l, 0)
	mustRead(t, l, 18, some(1)) // of the inodes none was given
}

func TestA3InodesRise(t *testing.T) {
	for _, n := range []int{64, 68, 71, 72} {
		_, s := made(t, n)
		l, y := s.Log(), s.Layout()
		bits := some(1)
		for i := 1; i < y.Inodes; i++ {
			mustHave(t, "HasInode", s.HasInode, i, false)
			mustGive(t, "Inodes", s.Inodes, y.Inodes-i)
			mustGive(t, "Inode", s.Inode, i)
			mustHave(t, "HasInode", s.HasInode, i, true)
			bits[i/8] |= 1 << (i % 8)
			mustRead(t, l, y.Nodes, bits)
			mustBeStaged(t, l, 2)
			mustCommit(t, l)
		}
		mustTell(t, "Inode", s.Inode, 0, api.ErrNoSpace)
		mustGive(t, "Inodes", s.Inodes, 0)
		mustBeStaged(t, l, 0)
		mustRead(t, l, y.Map, full(0))
	}
}

// The greatest disk has the most of both, and its last ones can be given and freed.
func TestA3AllOfTheGreatestDisk(t *testing.T) {
	_, s := made(t, 1024)
	l := s.Log()
	for b := 163; b < 1024; b++ {
		mustGive(t, "Block", s.Block, b)
		mustCommit(t, l)
	}
	mustTell(t, "Block", s.Block, 0, api.ErrNoSpace)
	for i := 1; i < 128; i++ {
		mustGive(t, "Inode", s.Inode, i)
	}
	mustTell(t, "Inode", s.Inode, 0, api.ErrNoSpace)
	mustRead(t, l, 130, append(full(255)[:16], full(0)[:112]...))
	mustFree(t, s, 1023)
	mustFreeInode(t, s, 127)
	mustGive(t, "Blocks", s.Blocks, 1)
	mustGive(t, "Inodes", s.Inodes, 1)
	mustGive(t, "Block", s.Block, 1023)
	mustGive(t, "Inode", s.Inode, 127)
}

func TestA3TheLeastIsGiven(t *testing.T) {
	_, s := made(t, 1024)
	for k := range 30 {
		mustGive(t, "Block", s.Block, 163+k)
		mustGive(t, "Inode", s.Inode, 1+k)
	}
	for _, k := range []int{29, 17, 8, 20, 7, 0} {
		mustFree(t, s, 163+k)
		mustFreeInode(t, s, 1+k)
	}
	for _, k := range []int{0, 7, 8, 17, 20, 29, 30} {
		mustGive(t, "Block", s.Block, 163+k)
		mustGive(t, "Inode", s.Inode, 1+k)
	}
}

// What is given has no byte of what was there, and its neighbours keep all of theirs.
func TestA3GivenBytesAreNoughts(t *testing.T) {
	_, s := made(t, 64)
	l := s.Log()
	for i := 19; i < 26; i++ {
		mustStage(t, l, i, full(byte(i)))
	}
	mustCommit(t, l)
	mustGive(t, "Block", s.Block, 23)
	mustRead(t, l, 23, full(0))
	mustRead(t, l, 22, full(22))
	mustRead(t, l, 24, full(24))
	want := [][]byte{full(19), full(20), full(21), full(22)}
	for i := 1; i < 16; i++ {
		mustGive(t, "Inode", s.Inode, i)
		clear(want[i/4][32*(i%4) : 32*(i%4)+32])
		for k, b := range want {
			mustRead(t, l, 19+k, b)
		}
	}
	mustRead(t, l, 23, full(0))
	mustRead(t, l, 24, full(24))
}

func TestA3FreeKeepsBytes(t *testing.T) {
	_, s := made(t, 64)
	l := s.Log()
	mustGive(t, "Block", s.Block, 23)
	mustGive(t, "Inode", s.Inode, 1)
	mustStage(t, l, 23, full(7))
	mustStage(t, l, 19, full(8))
	mustCommit(t, l)
	mustFree(t, s, 23)
	mustBeStaged(t, l, 1)
	mustFreeInode(t, s, 1)
	mustBeStaged(t, l, 2)
	mustRead(t, l, 17, full(0))
	mustRead(t, l, 18, some(1))
	mustRead(t, l, 23, full(7))
	mustRead(t, l, 19, full(8))
}

func TestA3FreeTurnsOneBit(t *testing.T) {
	_, s := made(t, 64)
	l := s.Log()
	mustStage(t, l, 17, full(255))
	mustStage(t, l, 18, full(255))
	bits, nodes := full(255), full(255)
	for _, k := range []int{40, 0, 7, 8, 9, 23} {
		mustFree(t, s, 23+k)
		bits[k/8] &^= 1 << (k % 8)
		mustRead(t, l, 17, bits)
	}
	for _, i := range []int{15, 1, 7, 8} {
		mustFreeInode(t, s, i)
		nodes[i/8] &^= 1 << (i % 8)
		mustRead(t, l, 18, nodes)
	}
}

// noBlocks and noInodes are of a disk of 64 sectors.
var (
	noBlocks = []int{math.MinInt, math.MinInt + 23, -1, 0, 1, 17, 18, 19, 22, 64, 65, 1024, 1<<32 + 23, math.MaxInt - 1, math.MaxInt}
	noInodes = []int{math.MinInt, -16, -1, 0, 16, 17, 128, 1<<32 + 1, math.MaxInt - 1, math.MaxInt}
)

// Also where all bits of the maps are 1, there are no more things than there are.
func TestA3FreeRefusesWhatIsNone(t *testing.T) {
	_, s := made(t, 64)
	l := s.Log()
	for _, bits := range [][]byte{full(0), full(255)} {
		mustStage(t, l, 17, bits)
		mustStage(t, l, 18, bits)
		for _, b := range noBlocks {
			mustBe(t, "Free", s.Free(b), api.ErrBlock)
			mustHave(t, "Has", s.Has, b, false)
		}
		for _, i := range noInodes {
			mustBe(t, "FreeInode", s.FreeInode(i), api.ErrInode)
			mustHave(t, "HasInode", s.HasInode, i, false)
		}
		mustRead(t, l, 17, bits)
		mustRead(t, l, 18, bits)
	}
	mustTell(t, "Block", s.Block, 0, api.ErrNoSpace)
	mustTell(t, "Inode", s.Inode, 0, api.ErrNoSpace)
}

// The inode 0 is none, though its bit were 0.
func TestA3TheInode0IsNeverGiven(t *testing.T) {
	_, s := made(t, 64)
	mustStage(t, s.Log(), 18, full(0))
	mustHave(t, "HasInode", s.HasInode, 0, false)
	mustGive(t, "Inodes", s.Inodes, 15)
	mustGive(t, "Inode", s.Inode, 1)
	mustRead(t, s.Log(), 18, some(2))
}

func TestA3FreeRefusesWhatIsNotInUse(t *testing.T) {
	_, s := made(t, 64)
	l := s.Log()
	for b := 23; b < 64; b++ {
		mustBe(t, "Free", s.Free(b), api.ErrBlock)
	}
	for i := range 16 {
		mustBe(t, "FreeInode", s.FreeInode(i), api.ErrInode)
	}
	mustBeStaged(t, l, 0)
	mustGive(t, "Block", s.Block, 23)
	mustFree(t, s, 23)
	mustBe(t, "Free", s.Free(23), api.ErrBlock)
	mustGive(t, "Inode", s.Inode, 1)
	mustFreeInode(t, s, 1)
	mustBe(t, "FreeInode", s.FreeInode(1), api.ErrInode)
}

// The bit is staged ahead of the bytes: where the log has room for one of them, it is the bit.
func TestA3OfALogThatIsFull(t *testing.T) {
	type call = func(s *alloc.Space) (int, api.Errno)
	for name, c := range map[string]struct {
		do     call
		sector int // the map's
		bits   []byte
		given  int
	}{
		"Block": {(*alloc.Space).Block, 17, some(1), 27},
		"Inode": {(*alloc.Space).Inode, 18, some(3), 1},
	} {
		for room := range 3 {
			_, s := made(t, 131)
			l := s.Log()
			before, e := l.Read(c.sector)
			mustBe(t, "Read", e, api.OK)
			fill(t, l, 131, room)
			staged := l.Staged()
			k, e := c.do(s)
			want, given := api.ErrLogFull, 0
			if room == 2 {
				want, given = api.OK, c.given
			}
			if k != given || e != want {
				t.Fatalf("%s with room for %d: %d, %d", name, room, k, e)
			}
			mustBeStaged(t, l, staged+room)
			if room == 0 {
				mustRead(t, l, c.sector, before)
			} else {
				mustRead(t, l, c.sector, c.bits)
			}
			l.Drop()
			mustRead(t, l, c.sector, before)
		}
	}
}

func TestA3FreeOfALogThatIsFull(t *testing.T) {
	_, s := made(t, 131)
	l := s.Log()
	mustGive(t, "Block", s.Block, 27)
	mustGive(t, "Inode", s.Inode, 1)
	mustCommit(t, l)
	fill(t, l, 131, 0)
	mustBe(t, "Free", s.Free(26), api.ErrBlock)
	mustBe(t, "Free", s.Free(28), api.ErrBlock)
	mustBe(t, "Free", s.Free(27), api.ErrLogFull)
	mustBe(t, "FreeInode", s.FreeInode(2), api.ErrInode)
	mustBe(t, "FreeInode", s.FreeInode(1), api.ErrLogFull)
	mustHave(t, "Has", s.Has, 27, true)
	mustHave(t, "HasInode", s.HasInode, 1, true)
}

// Where all are in use, that is told also by a log that is full.
func TestA3NoSpaceAheadOfLogFull(t *testing.T) {
	_, s := made(t, 131)
	l := s.Log()
	mustStage(t, l, 17, full(255))
	mustStage(t, l, 18, full(255))
	mustCommit(t, l)
	fill(t, l, 131, 0)
	mustTell(t, "Block", s.Block, 0, api.ErrNoSpace)
	mustTell(t, "Inode", s.Inode, 0, api.ErrNoSpace)
}

func TestA4Counts(t *testing.T) {
	for n := api.MinSectors; n <= api.MaxSectors; n++ {
		y := mustLay(t, n)
		_, s := made(t, n)
		mustGive(t, "Blocks", s.Blocks, n-y.Data)
		mustGive(t, "Inodes", s.Inodes, y.Inodes-1)
		mustBeStaged(t, s.Log(), 0)
	}
}

func TestA4LayoutAndLog(t *testing.T) {
	for _, n := range []int{64, 100, 1024} {
		_, l := bare(t, n)
		mustBe(t, "Format", alloc.Format(l, n), api.OK)
		s := mustOpen(t, l, n)
		if s.Log() != l {
			t.Fatal("Log tells another log")
		}
		if s.Layout() != mustLay(t, n) {
			t.Fatal("Layout", s.Layout())
		}
	}
}

func TestA4AskingChangesNothing(t *testing.T) {
	d, s := made(t, 64)
	mustGive(t, "Block", s.Block, 23)
	mustCommit(t, s.Log())
	deeds := d.Deeds()
	mustGive(t, "Blocks", s.Blocks, 40)
	mustGive(t, "Inodes", s.Inodes, 15)
	mustHave(t, "Has", s.Has, 23, true)
	mustHave(t, "Has", s.Has, 24, false)
	mustHave(t, "HasInode", s.HasInode, 1, false)
	mustBeStaged(t, s.Log(), 0)
	if d.Deeds() != deeds {
		t.Fatal("to ask has written")
	}
}

// Bits behind the last thing's are no thing's.
func TestA4BitsBehindTheLast(t *testing.T) {
	_, s := made(t, 64)
	bits := full(255)
	for k := range 41 {
		bits[k/8] &^= 1 << (k % 8)
	}
	nodes := full(255)
	nodes[0], nodes[1] = 1, 0
	mustStage(t, s.Log(), 17, bits)
	mustStage(t, s.Log(), 18, nodes)
	mustGive(t, "Blocks", s.Blocks, 41)
	mustGive(t, "Inodes", s.Inodes, 15)
	mustStage(t, s.Log(), 17, some(255, 255, 255, 255, 255, 1))
	mustStage(t, s.Log(), 18, some(255, 255))
	mustGive(t, "Blocks", s.Blocks, 0)
	mustGive(t, "Inodes", s.Inodes, 0)
	mustTell(t, "Block", s.Block, 0, api.ErrNoSpace)
	mustTell(t, "Inode", s.Inode, 0, api.ErrNoSpace)
}

// What is no thing needs no log to be told; all else is answered by what the log answers.
func TestOfADeadLog(t *testing.T) {
	d, s := made(t, 64)
	mustGive(t, "Block", s.Block, 23)
	mustGive(t, "Inode", s.Inode, 1)
	mustCommit(t, s.Log())
	d.Crash(0)
	for range 2 {
		for name, call := range map[string]func() (int, api.Errno){"Block": s.Block, "Inode": s.Inode, "Blocks": s.Blocks, "Inodes": s.Inodes} {
			mustTell(t, name, call, 0, api.ErrOff)
		}
		for k := 23; k < 64; k++ {
			mustBe(t, "Free", s.Free(k), api.ErrOff)
			if has, e := s.Has(k); has || e != api.ErrOff {
				t.Fatal("Has", k, has, e)
			}
		}
		for i := 1; i < 16; i++ {
			mustBe(t, "FreeInode", s.FreeInode(i), api.ErrOff)
			if has, e := s.HasInode(i); has || e != api.ErrOff {
				t.Fatal("HasInode", i, has, e)
			}
		}
		for _, b := range noBlocks {
			mustBe(t, "Free", s.Free(b), api.ErrBlock)
			mustHave(t, "Has", s.Has, b, false)
		}
		for _, i := range noInodes {
			mustBe(t, "FreeInode", s.FreeInode(i), api.ErrInode)
			mustHave(t, "HasInode", s.HasInode, i, false)
		}
		if s.Layout() != mustLay(t, 64) {
			t.Fatal("Layout of a dead log")
		}
		d.Start() // the log stays dead
	}
}

// A space keeps nothing that the log might tell otherwise: of two over one log each sees what the other does (R4).
func TestTwoSpacesOverOneLog(t *testing.T) {
	_, s := made(t, 64)
	other := mustOpen(t, s.Log(), 64)
	mustGive(t, "Block", s.Block, 23)
	mustGive(t, "Block", other.Block, 24)
	mustGive(t, "Inode", other.Inode, 1)
	mustGive(t, "Inode", s.Inode, 2)
	mustFree(t, other, 23)
	mustHave(t, "Has", s.Has, 23, false)
	mustFreeInode(t, s, 1)
	mustHave(t, "HasInode", other.HasInode, 1, false)
	mustGive(t, "Blocks", s.Blocks, 40)
	mustGive(t, "Inodes", other.Inodes, 14)
	mustStage(t, s.Log(), 17, some(0xff))
	mustGive(t, "Block", s.Block, 31)
}

// A log of another disk than n speaks of is none that may be handed in, but all calls end, and answer what the log answers.
func TestR1ALogOfAnotherDisk(t *testing.T) {
	_, l := bare(t, 64)
	mustBe(t, "Format", alloc.Format(l, 1024), api.ErrSector)
	l.Drop()
	mustBe(t, "Format", alloc.Format(l, 128), api.OK) // of 64 and of 128 sectors the log's region is the same
	s := mustOpen(t, l, 128)
	for b := 27; b < 64; b++ {
		mustGive(t, "Block", s.Block, b)
		mustCommit(t, l)
	}
	mustTell(t, "Block", s.Block, 0, api.ErrSector)
	for range 200 {
		s.Block()
		s.Inode()
	}
	for k := -1; k < 129; k++ {
		s.Has(k)
		s.HasInode(k)
		s.Free(k)
		s.FreeInode(k)
	}
}
