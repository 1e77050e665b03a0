package boot_test

import (
	"fmt"
	"math/rand/v2"
	"testing"

	"bootjack/api"
	"bootjack/boot"
	"bootjack/fs"
)

// keeps gives ways in which loose writes stay.
func keeps() []uint64 {
	return []uint64{0, ^uint64(0), 0x5555555555555555, 0xaaaaaaaaaaaaaaaa, 1, 1 << 63, 0x0123456789abcdef}
}

// eachDeed does a call with a loss of power at each of its deeds, and hands on what is there behind the next Mount.
func eachDeed(first *place, call func(f *fs.FS) api.Errno, look func(f *place)) {
	first.t.Helper()
	for after := 0; ; after++ {
		for _, keep := range keeps() {
			f := first.clone()
			f.d.Arm(after, keep)
			e := call(f.FS)
			if e == api.OK {
				if after < 4 {
					f.t.Error("so few deeds:", after)
				}
				return
			}
			mustBe(f.t, "the call", e, api.ErrPower)
			mustBe(f.t, "the call again", call(f.FS), api.ErrOff)
			f = f.anew()
			mustBe(f.t, "Check", f.Check(), api.OK)
			look(f)
		}
	}
}

// X5: wherever power fails in a Write, the menu is the old one or the new one, and what is left is in the way of nothing.
func TestX5WriteAtEachDeed(t *testing.T) {
	old, long := sample(), menu(99, 1, 16, 8, gens(row(16)...)...)
	for _, pair := range [][2]api.Menu{{old, long}, {long, old}, {{}, long}, {long, {}}} {
		first := made(t, 64)
		first.write(pair[0])
		ahead, behind := 0, 0
		eachDeed(first, func(f *fs.FS) api.Errno { return boot.Write(f, pair[1]) }, func(f *place) {
			m, e := boot.Read(f.FS)
			mustBe(t, "Read", e, api.OK)
			switch show(m) {
			case show(pair[0]):
				ahead++
			case show(pair[1]):
				behind++
			default:
				t.Errorf("neither: %s", show(m))
			}
			mustBe(t, "Setup", boot.Setup(f.FS), api.OK)
			f.mustRead(show(m))
			f.write(pair[1])
			f.mustRead(show(pair[1]))
			f.write(pair[0])
			f.mustRead(show(pair[0]))
			if l, _ := f.List("/boot"); len(l) != 1 {
				t.Errorf("%q stand in /boot", l)
			}
		})
		if ahead < 10 || behind < 1 {
			t.Error(ahead, behind)
		}
	}
}

// X2, X5: wherever power fails in a Setup, the next one makes the rest.
func TestX5SetupAtEachDeed(t *testing.T) {
	got := map[string]int{}
	eachDeed(bare(t, 64), boot.Setup, func(f *place) {
		l, _ := f.List("/")
		inner, _ := f.List("/boot")
		got[fmt.Sprint(l, inner)]++
		mustBe(t, "Setup", boot.Setup(f.FS), api.OK)
		f.mustRead(show(api.Menu{}))
		mustBe(t, "Check", f.Check(), api.OK)
	})
	for _, want := range []string{"[] []", "[boot] []", "[boot] [new]", "[boot] [menu]"} {
		if got[want] == 0 {
			t.Error(want, "is not come by", got)
		}
	}
}

// X5: power fails again and again, at Mount too: the menu is the last one that was written, or the one under way.
func TestX5WherePowerFails(t *testing.T) {
	ahead, behind, twice := 0, 0, 0
	for seed := range uint64(60) {
		rng := rand.New(rand.NewPCG(seed, 5))
		f := made(t, []int{64, 100, 300}[seed%3])
		plain := &plainMenu{paths: map[int]string{}}
		now := api.Menu{}
		for range 40 {
			next, _, e := plain.do(t, rng, now)
			if e != api.OK {
				continue
			}
			if rng.IntN(3) == 0 {
				f.d.Arm(rng.IntN(30), rng.Uint64()|rng.Uint64())
			}
			if e := boot.Write(f.FS, next); e == api.OK {
				f.d.Arm(-1, 0)
				now = next
				f.mustRead(show(now))
				continue
			} else if e != api.ErrPower {
				t.Fatal("Write", e)
			}
			f = mountedAtLast(f, rng, &twice)
			m, e := boot.Read(f.FS)
			switch {
			case e != api.OK || show(m) != show(now) && show(m) != show(next):
				t.Fatalf("Read: %d, %s; neither %s nor %s", e, show(m), show(now), show(next))
			case show(m) == show(next):
				behind++
				now = next
			default:
				ahead++
				f.write(next)
				now = next
			}
		}
	}
	if ahead < 50 || behind < 20 || twice < 50 {
		t.Error("power fails too much alike", ahead, behind, twice)
	}
}

// mountedAtLast starts a disk, in whose Mounts power fails a few times.
func mountedAtLast(f *place, rng *rand.Rand, twice *int) *place {
	f.t.Helper()
	for k := range 3 {
		mustBe(f.t, "Start", f.d.Start(), api.OK)
		if k < 2 {
			f.d.Arm(rng.IntN(8), rng.Uint64())
		}
		if g, e := fs.Mount(f.d); e == api.OK {
			f.d.Arm(-1, 0)
			mustBe(f.t, "Check", g.Check(), api.OK)
			return &place{g, f.t, f.d}
		}
		*twice++
	}
	f.t.Fatal("power fails, though nobody bound it to")
	return nil
}

// fill takes all but so many blocks.
func (f *place) fill(blocks int) {
	f.t.Helper()
	for k := 0; ; k++ {
		b, _, _ := f.Free()
		if b == blocks {
			return
		}
		mustBe(f.t, "Write", f.FS.Write(fmt.Sprint("/fill", k), make([]byte, 128*min(b-blocks-1, 8))), api.OK)
		if c, _, _ := f.Free(); c < blocks {
			mustBe(f.t, "Remove", f.Remove(fmt.Sprint("/fill", k)), api.OK)
			mustBe(f.t, "Write", f.FS.Write("/fill0", nil), api.OK)
		}
	}
}

// X2: where there is no room, the menu stays what it was, and can be read.
func TestX2WithoutRoom(t *testing.T) {
	long := menu(99, 1, 16, 8, gens(row(16)...)...)
	for room := range 9 {
		f := made(t, 100)
		f.write(sample())
		f.fill(room)
		ahead := f.shown()
		e := boot.Write(f.FS, long)
		if e != api.OK { // its text is of 8 blocks
			mustBe(t, "Write", e, api.ErrNoSpace)
			f.mustRead(show(sample()))
			same(t, "behind it", f.shown(), ahead)
		} else {
			f.mustRead(show(long))
		}
		if text := boot.Text(long); (e == api.OK) != (room >= (len(text)+127)/128) {
			t.Error("room", room, "answer", e, "bytes", len(text))
		}
	}
	for room := range 4 {
		f := bare(t, 100)
		f.fill(room)
		e := boot.Setup(f.FS)
		if e != api.OK {
			mustBe(t, "Setup", e, api.ErrNoSpace)
			f.mustNotRead(api.ErrNoEntry)
		} else {
			f.mustRead(show(api.Menu{}))
		}
		mustBe(t, "Check", f.Check(), api.OK)
	}
}
