package wal_test

import (
	"bytes"
	"encoding/binary"
	"hash/fnv"
	"math"
	"slices"
	"testing"

	"bootjack/api"
	"bootjack/disk"
	"bootjack/wal"
)

const allOnes = math.MaxUint64

func full(c byte) []byte {
	return bytes.Repeat([]byte{c}, api.SectorSize)
}

func mustBe(t *testing.T, what string, got, want api.Errno) {
	t.Helper()
	if got != want {
		t.Fatalf("%s: %d, not %d", what, got, want)
	}
}

func mustHold(t *testing.T, d *disk.Disk, i int, want []byte) {
	t.Helper()
	b, e := d.Read(i)
	mustBe(t, "disk's Read", e, api.OK)
	if !bytes.Equal(b, want) {
		t.Fatalf("the disk's sector %d: %v, not %v", i, b, want)
	}
}

func mustRead(t *testing.T, l *wal.Log, i int, want []byte) {
	t.Helper()
	b, e := l.Read(i)
	mustBe(t, "Read", e, api.OK)
	if !bytes.Equal(b, want) {
		t.Fatalf("home %d: %v, not %v", i, b, want)
	}
}

func mustNotRead(t *testing.T, l *wal.Log, i int, want api.Errno) {
	t.Helper()
	b, e := l.Read(i)
	mustBe(t, "Read", e, want)
	if len(b) != 0 {
		t.Fatalf("Read tells %v beside an error", b)
	}
}

func mustStage(t *testing.T, l *wal.Log, i int, c byte) {
	t.Helper()
	mustBe(t, "Stage", l.Stage(i, full(c)), api.OK)
}

func mustCommit(t *testing.T, l *wal.Log) {
	t.Helper()
	mustBe(t, "Commit", l.Commit(), api.OK)
}

func mustHome(t *testing.T, l *wal.Log) {
	t.Helper()
	mustBe(t, "Home", l.Home(), api.OK)
}

func mustCount(t *testing.T, l *wal.Log, staged, used int) {
	t.Helper()
	if l.Staged() != staged || l.Used() != used {
		t.Fatalf("Staged %d, Used %d, not %d, %d", l.Staged(), l.Used(), staged, used)
	}
}

func mustOpen(t *testing.T, d *disk.Disk, from, n int) *wal.Log {
	t.Helper()
	l, e := wal.Open(d, from, n)
	mustBe(t, "Open", e, api.OK)
	return l
}

func mustNotOpen(t *testing.T, d *disk.Disk, from, n int, want api.Errno) {
	t.Helper()
	l, e := wal.Open(d, from, n)
	mustBe(t, "Open", e, want)
	if l != nil {
		t.Fatal("Open tells a log beside an error")
	}
}

func mustStart(t *testing.T, d *disk.Disk) {
	t.Helper()
	mustBe(t, "Start", d.Start(), api.OK)
}

// made gives a disk and a new log on it.
func made(t *testing.T, size, from, n int) (*disk.Disk, *wal.Log) {
	t.Helper()
	d := disk.New(size)
	mustBe(t, "Format", wal.Format(d, from, n), api.OK)
	return d, mustOpen(t, d, from, n)
}

// controlBytes gives the control of these places by the chapter's words.
func controlBytes(epoch uint64, places [][]byte) []byte {
	return rawControl(epoch, uint16(len(places)), sumOf(places...))
}

func rawControl(epoch uint64, used uint16, places uint64) []byte {
	b := []byte("bootjack")
	b = binary.LittleEndian.AppendUint64(b, epoch)
	b = binary.LittleEndian.AppendUint16(b, used)
	b = binary.LittleEndian.AppendUint64(b, places)
	b = binary.LittleEndian.AppendUint64(b, sumOf(b))
	return filled(b)
}

// sumOf is the sum of the chapter before, by the library.
func sumOf(parts ...[]byte) uint64 {
	h := fnv.New64a()
	for _, p := range parts {
		h.Write(p)
	}
	return h.Sum64()
}

func filled(b []byte) []byte {
	return append(b, make([]byte, api.SectorSize-len(b))...)
}

// listBytes gives a list that says it has m homes.
func listBytes(m int, homes ...int) []byte {
	b := binary.LittleEndian.AppendUint16(nil, uint16(m))
	for _, i := range homes {
		b = binary.LittleEndian.AppendUint16(b, uint16(i))
	}
	return filled(b)
}

// lay writes a region by hand: its control, and what stands in its places.
func lay(t *testing.T, d *disk.Disk, from int, control []byte, places [][]byte) {
	t.Helper()
	for k, b := range slices.Concat([][]byte{control}, places) {
		mustBe(t, "disk's Write", d.Write(from+k, b), api.OK)
	}
	mustBe(t, "disk's Flush", d.Flush(), api.OK)
}

// The chapter's table of examples, row by row.
func TestExamples(t *testing.T) {
	d, l := made(t, 20, 0, 8)
	if l.Len() != 7 {
		t.Fatal("Len", l.Len())
	}
	mustBe(t, "Stage", l.Stage(3, full(1)), api.ErrSector)
	mustStage(t, l, 9, 1)
	mustBe(t, "Stage", l.Stage(20, full(1)), api.ErrSector)
	mustRead(t, l, 9, full(1))

	mustCommit(t, l)
	mustCount(t, l, 0, 2)
	mustHold(t, d, 9, full(0))

	mustHome(t, l)
	mustCount(t, l, 0, 0)
	mustHold(t, d, 9, full(1))

	for i := 9; i < 15; i++ {
		mustStage(t, l, i, 2)
	}
	mustBe(t, "Stage", l.Stage(15, full(2)), api.ErrLogFull)
	mustCount(t, l, 6, 0)
}

// ranges are regions, and whether they may be, on a disk of 300 sectors.
var ranges = []struct {
	from, n int
	ok      bool
}{
	{0, 4, true}, {0, 255, true}, {45, 255, true}, {296, 4, true}, {1, 16, true}, {100, 200, true},
	{0, 3, false}, {0, 256, false}, {46, 255, false}, {297, 4, false}, {-1, 4, false}, {-1, 255, false},
	{0, 0, false}, {0, -1, false}, {300, 4, false}, {101, 200, false}, {0, 300, false},
	{math.MaxInt, 4, false}, {math.MaxInt - 3, 4, false}, {math.MaxInt, 255, false}, {math.MinInt, 4, false},
	{0, math.MaxInt, false}, {0, math.MinInt, false}, {math.MinInt, math.MinInt, false}, {math.MaxInt, math.MaxInt, false},
}

func TestW1FormatTakesRegionsThatMayBe(t *testing.T) {
	for _, r := range ranges {
		d := disk.New(300)
		e := wal.Format(d, r.from, r.n)
		if r.ok != (e == api.OK) || !r.ok && e != api.ErrRange {
			t.Errorf("Format(%d, %d): %d", r.from, r.n, e)
		}
		if !r.ok && d.Deeds() != 0 {
			t.Errorf("Format(%d, %d) is refused, and did something", r.from, r.n)
		}
	}
}

func TestW1FormatOnSmallDisks(t *testing.T) {
	mustBe(t, "Format", wal.Format(disk.New(3), 0, 4), api.ErrRange)
	mustBe(t, "Format", wal.Format(disk.New(4), 0, 4), api.OK)
	mustBe(t, "Format", wal.Format(disk.New(4), 1, 4), api.ErrRange)
	mustBe(t, "Format", wal.Format(disk.New(1), 0, 1), api.ErrRange)
}

func TestW1FormatWritesTheControlAlone(t *testing.T) {
	d := disk.New(20)
	for i := range 20 {
		mustBe(t, "disk's Write", d.Write(i, full(7)), api.OK)
	}
	deeds := d.Deeds()
	mustBe(t, "Format", wal.Format(d, 5, 6), api.OK)
	if d.Dirty() != 0 || d.Deeds() != deeds+2 {
		t.Fatal("Dirty, Deeds", d.Dirty(), d.Deeds()-deeds)
	}
	mustHold(t, d, 5, controlBytes(1, nil))
	for i := range 20 {
		if i != 5 {
			mustHold(t, d, i, full(7))
		}
	}
}

func TestW1FormatAgainForgetsWhatIsCommitted(t *testing.T) {
	d, l := made(t, 20, 0, 8)
	mustStage(t, l, 9, 1)
	mustCommit(t, l)
	mustBe(t, "Format", wal.Format(d, 0, 8), api.OK)
	l = mustOpen(t, d, 0, 8)
	mustCount(t, l, 0, 0)
	mustRead(t, l, 9, full(0))
}

func TestW1FormatAnswersTheDisksErrorsOn(t *testing.T) {
	for after := range 2 {
		d := disk.New(20)
		d.Arm(after, 0)
		mustBe(t, "Format", wal.Format(d, 0, 8), api.ErrPower)
		mustBe(t, "Format", wal.Format(d, 0, 8), api.ErrOff)
		mustBe(t, "Format", wal.Format(d, 0, 3), api.ErrRange)
		mustStart(t, d)
		mustHold(t, d, 0, full(0))
	}
}

func TestW2OpenTakesRegionsThatMayBe(t *testing.T) {
	for _, r := range ranges {
		d := disk.New(300)
		if !r.ok {
			mustNotOpen(t, d, r.from, r.n, api.ErrRange)
			continue
		}
		mustBe(t, "Format", wal.Format(d, r.from, r.n), api.OK)
		l := mustOpen(t, d, r.from, r.n)
		if l.Len() != r.n-1 {
			t.Errorf("Len is %d of a region of %d", l.Len(), r.n)
		}
		mustCount(t, l, 0, 0)
	}
}

func TestW2OpenWritesNothing(t *testing.T) {
	d, l := made(t, 20, 0, 8)
	mustStage(t, l, 9, 1)
	mustCommit(t, l)
	deeds := d.Deeds()
	l = mustOpen(t, d, 0, 8)
	mustCount(t, l, 0, 2)
	mustRead(t, l, 9, full(1))
	if d.Deeds() != deeds || d.Dirty() != 0 {
		t.Fatal("Open has written")
	}
}

func TestW2OpenWithoutPower(t *testing.T) {
	d, _ := made(t, 20, 0, 8)
	d.Crash(0)
	mustNotOpen(t, d, 0, 8, api.ErrOff)
	mustNotOpen(t, d, 0, 3, api.ErrRange)
	mustStart(t, d)
	mustOpen(t, d, 0, 8)
}

func TestW2OpenOfNoLog(t *testing.T) {
	mustNotOpen(t, disk.New(20), 0, 8, api.ErrDamaged)
	d, _ := made(t, 20, 4, 8)
	mustNotOpen(t, d, 3, 8, api.ErrDamaged)
}

// rows are what three commits leave in a room of 12 places, of a region of 13 from sector 5 on.
func rows() [][]byte {
	return [][]byte{
		listBytes(2, 0, 19), full(1), full(2),
		listBytes(1, 19), full(3),
		listBytes(3, 2, 4, 18), full(4), full(5), full(6),
	}
}

func TestW2OpenTellsTheRows(t *testing.T) {
	d := disk.New(20)
	lay(t, d, 5, controlBytes(77, rows()), rows())
	l := mustOpen(t, d, 5, 13)
	mustCount(t, l, 0, 9)
	for i, c := range map[int]byte{0: 1, 19: 3, 2: 4, 4: 5, 18: 6, 1: 0, 3: 0} {
		mustRead(t, l, i, full(c))
	}
	mustHome(t, l)
	mustHold(t, d, 5, controlBytes(78, nil))
	mustHold(t, d, 19, full(3))
	mustHold(t, d, 0, full(1))
}

func TestW2OpenOfAFullRoom(t *testing.T) {
	d := disk.New(20)
	lay(t, d, 5, controlBytes(1, rows()), rows())
	mustCount(t, mustOpen(t, d, 5, 10), 0, 9)
	mustNotOpen(t, d, 5, 9, api.ErrDamaged)
}

// The control says only how long the used part is, so what stands behind it may be anything.
func TestW2OpenDoesNotMindWhatIsNotUsed(t *testing.T) {
	d := disk.New(20)
	lay(t, d, 5, controlBytes(1, rows()[:5]), append(rows(), full(255), full(255), full(255)))
	mustCount(t, mustOpen(t, d, 5, 13), 0, 5)
}

func TestW2EpochsOfAllKinds(t *testing.T) {
	for _, epoch := range []uint64{0, 1, 255, 256, 1 << 40, allOnes - 1, allOnes} {
		d := disk.New(20)
		lay(t, d, 5, controlBytes(epoch, rows()), rows())
		l := mustOpen(t, d, 5, 13)
		mustStage(t, l, 1, 9)
		mustCommit(t, l)
		mustHold(t, d, 5, controlBytes(epoch, append(rows(), listBytes(1, 1), full(9))))
		mustHome(t, l)
		mustHold(t, d, 5, controlBytes(epoch+1, nil))
	}
}

func TestW2OneBitOfTheControlIsWrong(t *testing.T) {
	for bit := range 8 * api.SectorSize {
		c := controlBytes(1, rows())
		c[bit/8] ^= 1 << (bit % 8)
		d := disk.New(20)
		lay(t, d, 5, c, rows())
		mustNotOpen(t, d, 5, 13, api.ErrDamaged)
	}
}

func TestW2OneBitOfTheUsedPlacesIsWrong(t *testing.T) {
	for k := range rows() {
		for bit := range 8 * api.SectorSize {
			r := rows()
			r[k][bit/8] ^= 1 << (bit % 8)
			d := disk.New(20)
			lay(t, d, 5, controlBytes(1, rows()), r)
			mustNotOpen(t, d, 5, 13, api.ErrDamaged)
		}
	}
}

func TestW2TheSumsAreRightButTheControlIsNot(t *testing.T) {
	other := controlBytes(1, rows())
	copy(other, "rootdisk")
	binary.LittleEndian.PutUint64(other[26:], sumOf(other[:26]))
	tail := controlBytes(1, rows())
	tail[127] = 1
	next := controlBytes(1, rows())
	next[34] = 1
	for _, c := range [][]byte{
		other, tail, next,
		rawControl(1, 9, sumOf(rows()...)+1),
		rawControl(1, 8, sumOf(rows()...)),
		rawControl(1, 10, sumOf(rows()...)),
		rawControl(1, 0, 0),
		rawControl(1, 13, sumOf(rows()...)),
		rawControl(1, math.MaxUint16, sumOf(rows()...)),
	} {
		d := disk.New(20)
		lay(t, d, 5, c, rows())
		mustNotOpen(t, d, 5, 13, api.ErrDamaged)
	}
}

// One place more than the room has is damage, though the sum of these places be right.
func TestW2UsesMoreThanTheRoomHas(t *testing.T) {
	d := disk.New(20)
	places := [][]byte{listBytes(1, 19), full(1), listBytes(1, 18), full(2)}
	lay(t, d, 0, controlBytes(1, places), places)
	mustNotOpen(t, d, 0, 4, api.ErrDamaged)
	mustCount(t, mustOpen(t, d, 0, 5), 0, 4)
}

func TestW2NoRows(t *testing.T) {
	dirty := listBytes(1, 19)
	dirty[127] = 1
	near := listBytes(1, 19)
	near[4] = 1
	many := make([]int, 61)
	for i := range many {
		many[i] = 100 + i
	}
	long := [][]byte{listBytes(61, many...)}
	for range many {
		long = append(long, full(1))
	}
	for what, places := range map[string][][]byte{
		"a list of none":                {full(0)},
		"a list of none and more":       {full(0), listBytes(1, 19), full(1)},
		"a list without its sectors":    {listBytes(1, 19)},
		"a list with too few":           {listBytes(2, 18, 19), full(1)},
		"a last list with too few":      {listBytes(1, 19), full(1), listBytes(2, 3, 4), full(2)},
		"a sector too many":             {listBytes(1, 19), full(1), full(1)},
		"homes that fall":               {listBytes(2, 19, 18), full(1), full(2)},
		"a home twice":                  {listBytes(2, 19, 19), full(1), full(2)},
		"homes that fall at last":       {listBytes(3, 3, 19, 18), full(1), full(2), full(3)},
		"the control as a home":         {listBytes(1, 5), full(1)},
		"a place as a home":             {listBytes(1, 10), full(1)},
		"the last place as a home":      {listBytes(2, 4, 17), full(1), full(1)},
		"a home behind the disk":        {listBytes(1, 200), full(1)},
		"a home far behind the disk":    {listBytes(1, 65535), full(1)},
		"a byte more at the end":        {dirty, full(1)},
		"a byte more behind the homes":  {near, full(1)},
		"a list of too many":            long,
		"a list of far too many":        {listBytes(65535), full(1)},
		"a list that its high byte has": {listBytes(256+1, 19), full(1)},
	} {
		d := disk.New(200)
		lay(t, d, 5, controlBytes(1, places), places)
		n := max(13, 1+len(places))
		l, e := wal.Open(d, 5, n)
		if l != nil || e != api.ErrDamaged {
			t.Errorf("%s: %d", what, e)
		}
	}
}

func TestW2HomesAtTheEdges(t *testing.T) {
	for _, i := range []int{0, 4, 18, 199} {
		places := [][]byte{listBytes(1, i), full(1)}
		d := disk.New(200)
		lay(t, d, 5, controlBytes(1, places), places)
		mustRead(t, mustOpen(t, d, 5, 13), i, full(1))
	}
}

// Sixty homes fill a list, and such a list alone is no fault.
func TestW2AListOfSixty(t *testing.T) {
	homes := make([]int, 60)
	places := [][]byte{nil}
	for k := range homes {
		homes[k] = 3*k + 300
		places = append(places, full(byte(k)))
	}
	places[0] = listBytes(60, homes...)
	d := disk.New(1024)
	lay(t, d, 0, controlBytes(9, places), places)
	l := mustOpen(t, d, 0, 62)
	mustCount(t, l, 0, 61)
	for k, i := range homes {
		mustRead(t, l, i, full(byte(k)))
	}
}

func TestW3HomesAndOthers(t *testing.T) {
	for _, from := range []int{0, 5, 12} {
		d, l := made(t, 20, from, 8)
		for i := -3; i < 25; i++ {
			home := i >= 0 && i < 20 && (i < from || i >= from+8)
			want := api.OK
			if !home {
				want = api.ErrSector
			}
			mustBe(t, "Stage", l.Stage(i, full(1)), want)
			if home {
				mustRead(t, l, i, full(1))
			} else {
				mustNotRead(t, l, i, api.ErrSector)
			}
			l.Drop()
		}
		for _, i := range []int{math.MinInt, math.MaxInt, 65536, 1 << 32} {
			mustBe(t, "Stage", l.Stage(i, full(1)), api.ErrSector)
			mustNotRead(t, l, i, api.ErrSector)
		}
		if d.Deeds() != 2 {
			t.Fatal("Stage, Read or Drop has written")
		}
	}
}

func TestW3StageRefusesSizes(t *testing.T) {
	_, l := made(t, 20, 0, 8)
	mustStage(t, l, 9, 1)
	for _, size := range []int{0, 1, api.SectorSize - 1, api.SectorSize + 1, 4 * api.SectorSize} {
		mustBe(t, "Stage", l.Stage(9, make([]byte, size)), api.ErrSize)
		mustBe(t, "Stage", l.Stage(10, make([]byte, size)), api.ErrSize)
		mustBe(t, "Stage", l.Stage(0, make([]byte, size)), api.ErrSector)
	}
	mustBe(t, "Stage", l.Stage(10, nil), api.ErrSize)
	mustCount(t, l, 1, 0)
	mustRead(t, l, 9, full(1))
	mustRead(t, l, 10, full(0))
}

func TestW3TheSizeIsToldAheadOfAFullLog(t *testing.T) {
	_, l := made(t, 20, 0, 4)
	mustStage(t, l, 9, 1)
	mustStage(t, l, 10, 1)
	mustBe(t, "Stage", l.Stage(11, nil), api.ErrSize)
	mustBe(t, "Stage", l.Stage(3, full(1)), api.ErrSector)
	mustBe(t, "Stage", l.Stage(11, full(1)), api.ErrLogFull)
}

// costOf counts by the words: m, and one for each 60 of them that are begun.
func costOf(m int) int {
	c := 0
	for k := range m {
		if k%60 == 0 {
			c++
		}
		c++
	}
	return c
}

// Of every region that may be: as many can be staged as their cost is at most the room, and they fit.
func TestW3LogFull(t *testing.T) {
	for n := 4; n <= 255; n++ {
		d, l := made(t, 1024, 0, n)
		staged := 0
		for costOf(staged+1) <= n-1 {
			mustStage(t, l, 300+staged, byte(staged))
			staged++
		}
		mustBe(t, "Stage", l.Stage(300+staged, full(1)), api.ErrLogFull)
		mustBe(t, "Stage", l.Stage(299, full(1)), api.ErrLogFull)
		mustStage(t, l, 300, 77) // it is staged, so it costs nothing more
		mustCount(t, l, staged, 0)
		mustCommit(t, l)
		mustCount(t, l, 0, costOf(staged))
		l = mustOpen(t, d, 0, n)
		mustRead(t, l, 300, full(77))
		mustRead(t, l, 299+staged, full(byte(staged-1)))
	}
}

func TestW3StageAgainTakesThePlace(t *testing.T) {
	_, l := made(t, 20, 0, 8)
	mustStage(t, l, 9, 1)
	mustStage(t, l, 9, 2)
	mustCount(t, l, 1, 0)
	mustRead(t, l, 9, full(2))
	mustCommit(t, l)
	mustCount(t, l, 0, 2)
	mustRead(t, l, 9, full(2))
}

func TestW3ReadTellsTheStagedFirst(t *testing.T) {
	d, l := made(t, 20, 0, 8)
	mustBe(t, "disk's Write", d.Write(9, full(1)), api.OK)
	mustRead(t, l, 9, full(1))
	mustStage(t, l, 9, 2)
	mustCommit(t, l)
	mustRead(t, l, 9, full(2))
	mustStage(t, l, 9, 3)
	mustRead(t, l, 9, full(3))
	mustHold(t, d, 9, full(1))
	l.Drop()
	mustRead(t, l, 9, full(2))
	mustStage(t, l, 9, 0) // noughts are staged as all else is
	mustRead(t, l, 9, full(0))
	mustCommit(t, l)
	mustRead(t, l, 9, full(0))
}

func TestW3Drop(t *testing.T) {
	d, l := made(t, 20, 0, 4)
	l.Drop()
	mustStage(t, l, 9, 1)
	mustStage(t, l, 10, 1)
	l.Drop()
	mustCount(t, l, 0, 0)
	mustRead(t, l, 9, full(0))
	mustCommit(t, l)
	if d.Deeds() != 2 {
		t.Fatal("what was dropped is committed")
	}
	mustStage(t, l, 11, 1)
	mustStage(t, l, 12, 1)
	mustCommit(t, l)
	mustRead(t, l, 9, full(0))
	mustRead(t, l, 11, full(1))
}

func TestW3ReadWithoutPower(t *testing.T) {
	d, l := made(t, 20, 0, 8)
	mustStage(t, l, 9, 1)
	d.Crash(0)
	mustNotRead(t, l, 20, api.ErrSector)
	mustNotRead(t, l, 0, api.ErrSector)
	mustStage(t, l, 10, 1) // it asks nothing of the disk, and the log is not dead yet
	mustNotRead(t, l, 9, api.ErrOff)
	mustNotRead(t, l, 20, api.ErrOff)
	mustBe(t, "Stage", l.Stage(11, full(1)), api.ErrOff)
}

// Power that came back ahead of any call is not missed.
func TestW3PowerThatCameBack(t *testing.T) {
	d, l := made(t, 20, 0, 8)
	mustStage(t, l, 9, 1)
	mustCommit(t, l)
	mustStage(t, l, 10, 2)
	d.Crash(0)
	mustStart(t, d)
	mustRead(t, l, 10, full(2))
	mustRead(t, l, 9, full(1))
	mustCommit(t, l)
	l = mustOpen(t, d, 0, 8)
	mustRead(t, l, 9, full(1))
	mustRead(t, l, 10, full(2))
}

func TestW4CommitOfNothing(t *testing.T) {
	d, l := made(t, 20, 0, 8)
	mustCommit(t, l)
	d.Crash(0)
	mustCommit(t, l)
	mustStart(t, d)
	mustStage(t, l, 9, 1) // so it was not dead
	mustCommit(t, l)
	deeds := d.Deeds()
	mustCommit(t, l)
	if d.Deeds() != deeds {
		t.Fatal("a commit of nothing has written")
	}
}

func TestW4WhatStandsInTheRoom(t *testing.T) {
	d, l := made(t, 20, 5, 13)
	for _, c := range [][]struct {
		home int
		c    byte
	}{{{19, 2}, {0, 1}}, {{19, 3}}, {{18, 6}, {2, 4}, {4, 5}}} {
		for _, s := range c {
			mustStage(t, l, s.home, s.c)
		}
		mustCommit(t, l)
	}
	mustCount(t, l, 0, 9)
	mustHold(t, d, 5, controlBytes(1, rows()))
	for k, b := range rows() {
		mustHold(t, d, 6+k, b)
	}
	for _, i := range []int{0, 1, 2, 3, 4, 15, 16, 17, 18, 19} {
		mustHold(t, d, i, full(0))
	}
}

// Of 130 homes there are rows of 60, 60 and 10, by rising homes over all, however they were staged.
func TestW4RowsOfSixty(t *testing.T) {
	d, l := made(t, 600, 200, 150)
	var homes []int
	for k := range 130 {
		i := k * 7 % 130 * 3 // all numbers from 0 to 129, out of order, times 3
		if i >= 200 {
			i += 150
		}
		homes = append(homes, i)
		mustStage(t, l, i, byte(i))
	}
	slices.Sort(homes)
	mustCommit(t, l)
	mustCount(t, l, 0, 133)
	var places [][]byte
	for _, part := range [][]int{homes[:60], homes[60:120], homes[120:]} {
		places = append(places, listBytes(len(part), part...))
		for _, i := range part {
			places = append(places, full(byte(i)))
		}
	}
	mustHold(t, d, 200, controlBytes(1, places))
	for k, b := range places {
		mustHold(t, d, 201+k, b)
	}
	l = mustOpen(t, d, 200, 150)
	for _, i := range homes {
		mustRead(t, l, i, full(byte(i)))
	}
}

// The room is filled to its last place ahead of any Home.
func TestW4HomeWhereThereIsNoRoom(t *testing.T) {
	d, l := made(t, 20, 0, 8)
	mustStage(t, l, 9, 1)
	mustStage(t, l, 10, 1)
	mustCommit(t, l)
	for i := 11; i < 14; i++ {
		mustStage(t, l, i, 2)
	}
	mustCommit(t, l) // 3 and 4 are 7
	mustCount(t, l, 0, 7)
	mustHold(t, d, 9, full(0))

	mustStage(t, l, 9, 3)
	mustCommit(t, l)
	mustCount(t, l, 0, 2)
	mustHold(t, d, 9, full(1))
	mustHold(t, d, 10, full(1))
	mustHold(t, d, 13, full(2))
	places := [][]byte{listBytes(1, 9), full(3)}
	mustHold(t, d, 0, controlBytes(2, places))
	mustHold(t, d, 1, places[0])
	mustHold(t, d, 2, places[1])
	mustRead(t, l, 9, full(3))
	mustRead(t, l, 13, full(2))
}

func TestW4HomeWhereOnePlaceIsMissing(t *testing.T) {
	d, l := made(t, 20, 0, 8)
	for i := 9; i < 13; i++ {
		mustStage(t, l, i, 1)
	}
	mustCommit(t, l)
	mustStage(t, l, 9, 2)
	mustStage(t, l, 10, 2)
	mustCommit(t, l) // 5 and 3 are 8
	mustCount(t, l, 0, 3)
	mustHold(t, d, 9, full(1))
	mustHold(t, d, 12, full(1))
}

func TestW5HomeOfNothing(t *testing.T) {
	d, l := made(t, 20, 0, 8)
	mustStage(t, l, 9, 1)
	mustHome(t, l)
	mustCount(t, l, 1, 0)
	d.Crash(0)
	mustHome(t, l)
	mustStart(t, d)
	if d.Deeds() != 2 {
		t.Fatal("a Home of nothing has written")
	}
	mustHold(t, d, 0, controlBytes(1, nil))
}

func TestW5Home(t *testing.T) {
	d, l := made(t, 20, 5, 13)
	for _, i := range []int{19, 2, 4} {
		mustStage(t, l, i, 1)
		mustCommit(t, l)
	}
	mustStage(t, l, 2, 2)
	mustCommit(t, l)
	mustStage(t, l, 4, 7)
	mustStage(t, l, 0, 7)
	deeds := d.Deeds()
	mustHome(t, l)
	if d.Deeds() != deeds+3+1+2 || d.Dirty() != 0 {
		t.Fatal("Deeds, Dirty", d.Deeds()-deeds, d.Dirty())
	}
	mustCount(t, l, 2, 0) // what is staged stays so
	mustHold(t, d, 5, controlBytes(2, nil))
	for i, c := range map[int]byte{0: 0, 1: 0, 2: 2, 4: 1, 19: 1, 18: 0} {
		mustHold(t, d, i, full(c))
	}
	mustRead(t, l, 4, full(7))
	mustCommit(t, l)
	mustHold(t, d, 5, controlBytes(2, [][]byte{listBytes(2, 0, 4), full(7), full(7)}))
	mustHold(t, d, 4, full(1))
}

func TestDeadBehindErrPower(t *testing.T) {
	for name, call := range map[string]func(l *wal.Log) api.Errno{
		"Commit": (*wal.Log).Commit,
		"Home":   (*wal.Log).Home,
	} {
		d, l := made(t, 20, 0, 8)
		mustStage(t, l, 9, 1)
		mustCommit(t, l)
		mustStage(t, l, 10, 2)
		d.Arm(1, 0)
		mustBe(t, name, call(l), api.ErrPower)
		mustBeDead(t, l)
		mustStart(t, d)
		mustBeDead(t, l)
		if l.Len() != 7 {
			t.Fatal("Len of a dead log", l.Len())
		}
		mustCount(t, l, 1, 2)
		l.Drop()
		mustCount(t, l, 0, 2)
		mustBeDead(t, l)
		mustRead(t, mustOpen(t, d, 0, 8), 9, full(1))
	}
}

func TestDeadBehindErrOff(t *testing.T) {
	for name, call := range map[string]func(l *wal.Log) api.Errno{
		"Commit": (*wal.Log).Commit,
		"Home":   (*wal.Log).Home,
		"Read":   func(l *wal.Log) api.Errno { _, e := l.Read(11); return e },
	} {
		d, l := made(t, 20, 0, 8)
		mustStage(t, l, 9, 1)
		mustCommit(t, l)
		mustStage(t, l, 10, 2)
		d.Crash(0)
		mustBe(t, name, call(l), api.ErrOff)
		mustStart(t, d)
		deeds := d.Deeds()
		mustBeDead(t, l)
		mustCount(t, l, 1, 2)
		if d.Deeds() != deeds {
			t.Fatal("a dead log has written")
		}
	}
}

// mustBeDead asks also for what would be answered otherwise by a log that lives: what is no home, what has not the size, what is nothing to do.
func mustBeDead(t *testing.T, l *wal.Log) {
	t.Helper()
	for _, i := range []int{-1, 0, 9, 10, 11, 20} {
		mustNotRead(t, l, i, api.ErrOff)
		mustBe(t, "Stage", l.Stage(i, full(1)), api.ErrOff)
		mustBe(t, "Stage", l.Stage(i, nil), api.ErrOff)
	}
	mustBe(t, "Commit", l.Commit(), api.ErrOff)
	mustBe(t, "Home", l.Home(), api.ErrOff)
}

func TestDeadWithNothingToDo(t *testing.T) {
	d, l := made(t, 20, 0, 8)
	d.Crash(0)
	mustNotRead(t, l, 9, api.ErrOff)
	mustStart(t, d)
	mustBe(t, "Commit", l.Commit(), api.ErrOff)
	mustBe(t, "Home", l.Home(), api.ErrOff)
}

// A Home that a Commit has done is done, though the Commit is not.
func TestDeadBehindTheHomeOfACommit(t *testing.T) {
	d, l := made(t, 20, 0, 4)
	mustStage(t, l, 9, 1)
	mustStage(t, l, 10, 1)
	mustCommit(t, l)
	mustStage(t, l, 9, 2)
	d.Arm(2+1+2, 0)
	mustBe(t, "Commit", l.Commit(), api.ErrPower)
	mustCount(t, l, 1, 0)
	mustStart(t, d)
	mustHold(t, d, 0, controlBytes(2, nil))
	mustRead(t, mustOpen(t, d, 0, 4), 9, full(1))
}

// Neither what was handed in is kept, nor is what was answered shared (R3).
func TestR3Memory(t *testing.T) {
	d, l := made(t, 20, 0, 8)
	b := make([]byte, api.SectorSize, 4*api.SectorSize)
	copy(b, full(1))
	mustBe(t, "Stage", l.Stage(9, b), api.OK)
	if !bytes.Equal(b, full(1)) {
		t.Fatal("the argument is changed")
	}
	b[0] = 7
	for _, step := range []func(){
		func() {},
		func() { mustCommit(t, l) },
		func() { mustHome(t, l) },
		func() { l = mustOpen(t, d, 0, 8) },
	} {
		step()
		for range 2 {
			a, e := l.Read(9)
			mustBe(t, "Read", e, api.OK)
			spoil(a)
			mustRead(t, l, 9, full(1))
		}
	}
	mustHold(t, d, 9, full(1))
}

func spoil(b []byte) {
	b = b[:cap(b)]
	for i := range b {
		b[i] = 99
	}
}

// Two logs of two disks know nothing of each other (R4).
func TestR4TwoLogs(t *testing.T) {
	d, l := made(t, 20, 0, 8)
	mustStage(t, l, 9, 1)
	mustCommit(t, l)
	c := d.Clone()
	m := mustOpen(t, c, 0, 8)
	mustStage(t, m, 9, 2)
	mustCommit(t, m)
	mustRead(t, l, 9, full(1))
	mustHome(t, l)
	mustCount(t, m, 0, 4)
	mustRead(t, m, 9, full(2))
	mustHold(t, c, 9, full(0))
}
