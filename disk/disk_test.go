package disk_test

import (
	"bytes"
	"math"
	"testing"

	"bootjack/api"
	"bootjack/disk"
)

const allOnes = math.MaxUint64

func full(c byte) []byte {
	return bytes.Repeat([]byte{c}, api.SectorSize)
}

func mustBe(t *testing.T, what string, got, want api.Errno) {
	t.Helper()
	if got != want {
		t.Fatalf("%s: %d, not %d", what, got, want)
	}
}

func mustRead(t *testing.T, d *disk.Disk, i int, want []byte) {
	t.Helper()
	b, e := d.Read(i)
	mustBe(t, "Read", e, api.OK)
	if !bytes.Equal(b, want) {
		t.Fatalf("sector %d: %v, not %v", i, b, want)
	}
}

func mustWrite(t *testing.T, d *disk.Disk, i int, c byte) {
	t.Helper()
	mustBe(t, "Write", d.Write(i, full(c)), api.OK)
}

func mustFlush(t *testing.T, d *disk.Disk) {
	t.Helper()
	mustBe(t, "Flush", d.Flush(), api.OK)
}

func mustStart(t *testing.T, d *disk.Disk) {
	t.Helper()
	mustBe(t, "Start", d.Start(), api.OK)
}

func mustCount(t *testing.T, d *disk.Disk, dirty, deeds int) {
	t.Helper()
	if d.Dirty() != dirty || d.Deeds() != deeds {
		t.Fatalf("Dirty %d, Deeds %d, not %d, %d", d.Dirty(), d.Deeds(), dirty, deeds)
	}
}

// The chapter's table of examples, row by row.
func TestExamples(t *testing.T) {
	d := disk.New(4)
	mustWrite(t, d, 0, 1)
	mustFlush(t, d)
	mustWrite(t, d, 0, 2)
	mustWrite(t, d, 1, 2)
	mustCount(t, d, 2, 4)

	d.Crash(2)
	_, e := d.Read(0)
	mustBe(t, "Read", e, api.ErrOff)
	mustStart(t, d)
	mustRead(t, d, 0, full(1))
	mustRead(t, d, 1, full(2))

	d.Arm(1, 0)
	mustWrite(t, d, 2, 1)
	mustBe(t, "Write", d.Write(2, full(2)), api.ErrPower)
	if d.Up() {
		t.Fatal("up")
	}

	mustStart(t, d)
	mustRead(t, d, 2, full(0))
	mustBe(t, "Write", d.Write(4, full(1)), api.ErrSector)
	mustBe(t, "Write", d.Write(0, nil), api.ErrSize)
	mustBe(t, "Start", d.Start(), api.ErrUp)
}

func TestD1NewRefusesSizes(t *testing.T) {
	for _, n := range []int{math.MinInt, -1, 0, api.MaxSectors + 1, math.MaxInt} {
		if disk.New(n) != nil {
			t.Errorf("New(%d) is a disk", n)
		}
	}
}

func TestD1NewDisk(t *testing.T) {
	for _, n := range []int{1, 2, 64, api.MaxSectors - 1, api.MaxSectors} {
		d := disk.New(n)
		if d == nil || d.Len() != n || !d.Up() {
			t.Fatalf("New(%d)", n)
		}
		mustCount(t, d, 0, 0)
		for i := range n {
			mustRead(t, d, i, full(0))
		}
	}
}

func TestD1NewIsNotBoundToFail(t *testing.T) {
	d := disk.New(1)
	for range 300 {
		mustWrite(t, d, 0, 1)
	}
	mustFlush(t, d)
	mustCount(t, d, 0, 301)
}

func TestD1LenAndUpThroughALossOfPower(t *testing.T) {
	d := disk.New(7)
	d.Crash(0)
	if d.Up() || d.Len() != 7 {
		t.Fatal("behind Crash", d.Up(), d.Len())
	}
	mustStart(t, d)
	if !d.Up() || d.Len() != 7 {
		t.Fatal("behind Start", d.Up(), d.Len())
	}
}

func TestD2ReadTellsTheLastWrite(t *testing.T) {
	d := disk.New(3)
	mustWrite(t, d, 2, 1)
	mustWrite(t, d, 2, 2)
	mustRead(t, d, 2, full(2))
	mustRead(t, d, 1, full(0))
	mustFlush(t, d)
	mustRead(t, d, 2, full(2))
	mustWrite(t, d, 2, 3)
	mustRead(t, d, 2, full(3))
}

func TestD2EachByteIsWritten(t *testing.T) {
	b := make([]byte, api.SectorSize)
	for i := range b {
		b[i] = byte(255 - i)
	}
	d := disk.New(2)
	mustBe(t, "Write", d.Write(1, b), api.OK)
	mustRead(t, d, 1, b)
	mustRead(t, d, 0, full(0))
	d.Crash(1)
	mustStart(t, d)
	mustRead(t, d, 1, b)
}

func TestD2NoSuchSector(t *testing.T) {
	d := disk.New(3)
	for _, i := range []int{math.MinInt, -1, 3, api.MaxSectors, math.MaxInt} {
		b, e := d.Read(i)
		mustBe(t, "Read", e, api.ErrSector)
		if len(b) != 0 {
			t.Error("bytes beside an error")
		}
		mustBe(t, "Write", d.Write(i, full(1)), api.ErrSector)
		mustBe(t, "Write of another size", d.Write(i, nil), api.ErrSector)
	}
	mustCount(t, d, 0, 0)
}

func TestD2OtherSizes(t *testing.T) {
	d := disk.New(1)
	for _, n := range []int{0, 1, api.SectorSize - 1, api.SectorSize + 1, 2 * api.SectorSize} {
		mustBe(t, "Write", d.Write(0, make([]byte, n)), api.ErrSize)
	}
	mustBe(t, "Write of nil", d.Write(0, nil), api.ErrSize)
	mustCount(t, d, 0, 0)
	mustRead(t, d, 0, full(0))
}

func TestD2OffComesFirst(t *testing.T) {
	d := disk.New(1)
	d.Crash(0)
	for _, i := range []int{-1, 0, 1} {
		b, e := d.Read(i)
		mustBe(t, "Read", e, api.ErrOff)
		if len(b) != 0 {
			t.Error("bytes beside an error")
		}
		mustBe(t, "Write", d.Write(i, full(1)), api.ErrOff)
		mustBe(t, "Write of another size", d.Write(i, nil), api.ErrOff)
	}
	mustBe(t, "Flush", d.Flush(), api.ErrOff)
	mustCount(t, d, 0, 0)
}

func TestD2WrongWritesComeAheadOfPowerFailing(t *testing.T) {
	d := disk.New(1)
	d.Arm(0, 0)
	mustBe(t, "Write", d.Write(1, full(1)), api.ErrSector)
	mustBe(t, "Write", d.Write(0, nil), api.ErrSize)
	mustRead(t, d, 0, full(0))
	if !d.Up() {
		t.Fatal("a refused write took power")
	}
	mustBe(t, "Write", d.Write(0, full(1)), api.ErrPower)
}

func TestD2AWriteAtWhichPowerFailsIsNotDone(t *testing.T) {
	d := disk.New(2)
	mustWrite(t, d, 0, 1)
	d.Arm(0, allOnes)
	mustBe(t, "Write", d.Write(1, full(2)), api.ErrPower)
	if d.Up() {
		t.Fatal("up")
	}
	mustCount(t, d, 0, 1)
	mustStart(t, d)
	mustRead(t, d, 0, full(1))
	mustRead(t, d, 1, full(0))
}

func TestD2AFlushAtWhichPowerFailsIsNotDone(t *testing.T) {
	d := disk.New(2)
	mustWrite(t, d, 0, 1)
	mustWrite(t, d, 1, 2)
	d.Arm(0, 2)
	mustBe(t, "Flush", d.Flush(), api.ErrPower)
	if d.Up() {
		t.Fatal("up")
	}
	mustCount(t, d, 0, 2)
	mustStart(t, d)
	mustRead(t, d, 0, full(0))
	mustRead(t, d, 1, full(2))
}

func TestD2FlushIsADeedAlsoWhereNothingIsLoose(t *testing.T) {
	d := disk.New(1)
	mustFlush(t, d)
	mustCount(t, d, 0, 1)
	d.Arm(2, 0)
	mustFlush(t, d)
	mustFlush(t, d)
	mustBe(t, "Flush", d.Flush(), api.ErrPower)
	mustCount(t, d, 0, 3)
}

func TestD3ArmCountsDeeds(t *testing.T) {
	for after := range 6 {
		d := disk.New(1)
		mustWrite(t, d, 0, 9)
		d.Arm(after, 0)
		for i := range after {
			d.Read(0)
			d.Write(0, nil)
			if i%2 == 0 {
				mustWrite(t, d, 0, 1)
			} else {
				mustFlush(t, d)
			}
		}
		if !d.Up() {
			t.Fatal("power failed too early")
		}
		mustBe(t, "Write", d.Write(0, full(1)), api.ErrPower)
		mustBe(t, "Write", d.Write(0, full(1)), api.ErrOff)
		mustCount(t, d, 0, 1+after)
	}
}

func TestD3ALaterArmIsInPlaceOfTheEarlier(t *testing.T) {
	d := disk.New(2)
	d.Arm(0, allOnes)
	d.Arm(2, 1)
	mustWrite(t, d, 0, 1)
	mustWrite(t, d, 1, 1)
	mustBe(t, "Flush", d.Flush(), api.ErrPower)
	mustStart(t, d)
	mustRead(t, d, 0, full(1))
	mustRead(t, d, 1, full(0))

	d.Arm(5, 0)
	d.Arm(0, 0)
	mustBe(t, "Flush", d.Flush(), api.ErrPower)
}

func TestD3ArmBelowNought(t *testing.T) {
	for _, after := range []int{-1, math.MinInt} {
		d := disk.New(1)
		d.Arm(0, 0)
		d.Arm(after, 0)
		for range 10 {
			mustWrite(t, d, 0, 1)
		}
	}
}

func TestD3ArmFarAway(t *testing.T) {
	d := disk.New(1)
	d.Arm(math.MaxInt, 0)
	for range 10 {
		mustWrite(t, d, 0, 1)
	}
	d.Crash(0)
	mustStart(t, d)
	mustWrite(t, d, 0, 1)
}

func TestD3ArmWithoutPowerDoesNothing(t *testing.T) {
	d := disk.New(1)
	d.Crash(0)
	d.Arm(0, 0)
	mustStart(t, d)
	mustWrite(t, d, 0, 1)
}

func TestD3PowerThatFailedIsNotBoundToFail(t *testing.T) {
	d := disk.New(1)
	d.Arm(0, 0)
	mustBe(t, "Flush", d.Flush(), api.ErrPower)
	mustStart(t, d)
	mustWrite(t, d, 0, 1)

	d.Arm(0, 0)
	d.Crash(0)
	mustStart(t, d)
	mustWrite(t, d, 0, 1)
}

func TestD3CrashWithoutPowerDoesNothing(t *testing.T) {
	d := disk.New(2)
	mustWrite(t, d, 0, 1)
	mustWrite(t, d, 1, 2)
	d.Crash(1)
	d.Crash(allOnes)
	d.Crash(0)
	mustCount(t, d, 0, 2)
	mustStart(t, d)
	mustRead(t, d, 0, full(1))
	mustRead(t, d, 1, full(0))
}

func TestD3Start(t *testing.T) {
	d := disk.New(1)
	mustWrite(t, d, 0, 1)
	mustBe(t, "Start", d.Start(), api.ErrUp)
	mustCount(t, d, 1, 1)
	mustRead(t, d, 0, full(1))
	d.Crash(1)
	mustStart(t, d)
	mustBe(t, "Start", d.Start(), api.ErrUp)
	mustCount(t, d, 0, 1)
	mustRead(t, d, 0, full(1))
}

// Each of the keep's bits, with more loose writes than it has bits: the ones from 64 on take the bits from 0 on again.
func TestWhichLooseWritesStay(t *testing.T) {
	const n = 200
	for bit := range 64 {
		d := disk.New(n)
		for i := range n {
			mustWrite(t, d, i, byte(i+1))
		}
		d.Crash(1 << bit)
		mustStart(t, d)
		for i := range n {
			want := byte(0)
			if i%64 == bit {
				want = byte(i + 1)
			}
			mustRead(t, d, i, full(want))
		}
	}
}

// The numbers begin with 0 behind each flush, and behind each loss of power.
func TestLooseWritesAreNumberedAnew(t *testing.T) {
	d := disk.New(2)
	mustWrite(t, d, 0, 1)
	mustFlush(t, d)
	mustWrite(t, d, 0, 2)
	mustWrite(t, d, 1, 2)
	d.Crash(1)
	mustStart(t, d)
	mustRead(t, d, 0, full(2))
	mustRead(t, d, 1, full(0))
	mustWrite(t, d, 0, 3)
	mustWrite(t, d, 1, 3)
	d.Crash(1)
	mustStart(t, d)
	mustRead(t, d, 0, full(3))
	mustRead(t, d, 1, full(0))
}

// Of several writes of one sector the last that stays counts, not the last.
func TestTheLastWriteThatStaysCounts(t *testing.T) {
	for keep := range uint64(16) {
		d := disk.New(1)
		mustWrite(t, d, 0, 9)
		mustFlush(t, d)
		want := byte(9)
		for i := range 4 {
			mustWrite(t, d, 0, byte(i+1))
			if keep>>i&1 == 1 {
				want = byte(i + 1)
			}
		}
		d.Crash(keep)
		mustStart(t, d)
		mustRead(t, d, 0, full(want))
	}
}

func TestD4DirtyCountsWritesNotSectors(t *testing.T) {
	d := disk.New(2)
	mustWrite(t, d, 0, 1)
	mustWrite(t, d, 0, 1)
	mustWrite(t, d, 1, 0)
	mustCount(t, d, 3, 3)
	mustFlush(t, d)
	mustCount(t, d, 0, 4)
	mustWrite(t, d, 1, 0)
	mustCount(t, d, 1, 5)
	d.Crash(allOnes)
	mustCount(t, d, 0, 5)
	mustStart(t, d)
	mustCount(t, d, 0, 5)
	mustWrite(t, d, 1, 0)
	mustCount(t, d, 1, 6)
}

func TestD4CloneStandsAsTheDisk(t *testing.T) {
	d := disk.New(3)
	mustWrite(t, d, 0, 1)
	mustFlush(t, d)
	mustWrite(t, d, 0, 2)
	mustWrite(t, d, 1, 2)
	d.Arm(1, 2)
	c := d.Clone()
	for _, x := range []*disk.Disk{c, d} {
		if x.Len() != 3 || !x.Up() {
			t.Fatal("Len, Up", x.Len(), x.Up())
		}
		mustCount(t, x, 2, 4)
		mustRead(t, x, 0, full(2))
		mustWrite(t, x, 2, 2)
		mustBe(t, "Flush", x.Flush(), api.ErrPower)
		mustCount(t, x, 0, 5)
		mustStart(t, x)
		mustRead(t, x, 0, full(1))
		mustRead(t, x, 1, full(2))
		mustRead(t, x, 2, full(0))
	}
}

func TestD4CloneWithoutPower(t *testing.T) {
	d := disk.New(1)
	mustWrite(t, d, 0, 1)
	d.Crash(1)
	c := d.Clone()
	mustStart(t, d)
	if c.Up() {
		t.Fatal("the clone saw Start")
	}
	mustBe(t, "Flush", c.Flush(), api.ErrOff)
	mustStart(t, c)
	mustRead(t, c, 0, full(1))
	mustCount(t, c, 0, 1)
}

// Both go on with writes from the same number of loose ones on, so that lists with room to spare in common would show.
func TestD4NeitherSeesTheOther(t *testing.T) {
	for loose := range 9 {
		d := disk.New(4)
		for range loose {
			mustWrite(t, d, 0, 1)
		}
		c := d.Clone()
		mustWrite(t, d, 1, 2)
		mustWrite(t, c, 2, 3)
		mustWrite(t, d, 3, 4)
		mustRead(t, c, 1, full(0))
		mustRead(t, d, 2, full(0))
		mustRead(t, c, 3, full(0))
		c.Arm(0, 0)
		mustFlush(t, d)
		mustCount(t, d, 0, loose+3)
		mustCount(t, c, loose+1, loose+1)
		d.Crash(0)
		if !c.Up() {
			t.Fatal("the clone saw Crash")
		}
		c.Crash(allOnes)
		mustStart(t, d)
		mustStart(t, c)
		mustRead(t, d, 1, full(2))
		mustRead(t, d, 2, full(0))
		mustRead(t, d, 3, full(4))
		mustRead(t, c, 1, full(0))
		mustRead(t, c, 2, full(3))
		mustRead(t, c, 3, full(0))
	}
}

func TestD5WhatWasFlushedStays(t *testing.T) {
	d := disk.New(2)
	mustWrite(t, d, 0, 1)
	mustFlush(t, d)
	for _, keep := range []uint64{0, 1, 2, 1 << 63, allOnes} {
		mustWrite(t, d, 1, 7)
		d.Crash(keep)
		mustStart(t, d)
		mustRead(t, d, 0, full(1))
	}
}

func TestD5NoneOrAllAreTaken(t *testing.T) {
	const n = 150
	for _, keep := range []uint64{0, allOnes} {
		d := disk.New(n)
		for i := range n {
			mustWrite(t, d, i, 1)
		}
		mustFlush(t, d)
		for i := range n {
			mustWrite(t, d, i, 2)
		}
		d.Crash(keep)
		mustStart(t, d)
		for i := range n {
			want := byte(1)
			if keep != 0 {
				want = 2
			}
			mustRead(t, d, i, full(want))
		}
	}
}

func TestWhatIsHandedInIsNeitherChangedNorKept(t *testing.T) {
	d := disk.New(1)
	b := full(1)
	mustBe(t, "Write", d.Write(0, b), api.OK)
	if !bytes.Equal(b, full(1)) {
		t.Fatal("changed")
	}
	b[0], b[api.SectorSize-1] = 9, 9
	mustRead(t, d, 0, full(1))
	d.Crash(1)
	mustStart(t, d)
	mustRead(t, d, 0, full(1))
}

func TestWhatIsAnsweredIsTheCallersOwn(t *testing.T) {
	d := disk.New(2)
	mustWrite(t, d, 0, 1)
	mustWrite(t, d, 1, 2)
	a, _ := d.Read(0)
	b, _ := d.Read(0)
	for i := range a[:cap(a)] {
		a[:cap(a)][i] = 9
	}
	if !bytes.Equal(b, full(1)) {
		t.Fatal("two answers share memory")
	}
	mustRead(t, d, 0, full(1))
	mustRead(t, d, 1, full(2))
	d.Crash(allOnes)
	mustStart(t, d)
	mustRead(t, d, 0, full(1))
	c, _ := d.Read(0)
	c[0] = 9
	d.Crash(0)
	mustStart(t, d)
	mustRead(t, d, 0, full(1))
}
