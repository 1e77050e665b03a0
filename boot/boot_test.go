package boot_test

import (
	"fmt"
	"slices"
	"strings"
	"testing"

	"bootjack/api"
	"bootjack/boot"
	"bootjack/disk"
	"bootjack/fs"
)

// place is a disk, and the file system on it.
type place struct {
	*fs.FS
	t *testing.T
	d *disk.Disk
}

func mounted(t *testing.T, d *disk.Disk) *place {
	t.Helper()
	f, e := fs.Mount(d)
	mustBe(t, "Mount", e, api.OK)
	return &place{f, t, d}
}

// bare gives a file system with nothing in it on a disk of n sectors.
func bare(t *testing.T, n int) *place {
	t.Helper()
	d := disk.New(n)
	mustBe(t, "Format", fs.Format(d), api.OK)
	return mounted(t, d)
}

// made gives one with a menu.
func made(t *testing.T, n int) *place {
	t.Helper()
	f := bare(t, n)
	mustBe(t, "Setup", boot.Setup(f.FS), api.OK)
	return f
}

func (f *place) clone() *place {
	f.t.Helper()
	return mounted(f.t, f.d.Clone())
}

// anew mounts behind a loss of power.
func (f *place) anew() *place {
	f.t.Helper()
	f.d.Crash(0)
	mustBe(f.t, "Start", f.d.Start(), api.OK)
	return mounted(f.t, f.d)
}

func (f *place) write(m api.Menu) {
	f.t.Helper()
	mustBe(f.t, "Write", boot.Write(f.FS, m), api.OK)
}

func (f *place) mustRead(want string) {
	f.t.Helper()
	m, e := boot.Read(f.FS)
	if e != api.OK || show(m) != want {
		f.t.Fatalf("Read: %d, %s; must be %s", e, show(m), want)
	}
}

func (f *place) mustNotRead(want api.Errno) {
	f.t.Helper()
	m, e := boot.Read(f.FS)
	if e != want || show(m) != show(api.Menu{}) {
		f.t.Fatalf("Read: %d, %s; must be %d", e, show(m), want)
	}
}

// shown tells all that stands on the disk.
func (f *place) shown() string {
	f.t.Helper()
	mustBe(f.t, "Check", f.Check(), api.OK)
	var b strings.Builder
	var tell func(path string)
	tell = func(path string) {
		s, _ := f.Stat(path)
		data, _ := f.Read(path)
		to, _ := f.Readlink(path)
		fmt.Fprintf(&b, "%s %d %d %q %q\n", path, s.Kind, s.Size, data, to)
		if s.Kind == api.KindDir {
			l, _ := f.List(path)
			for _, name := range l {
				tell(strings.TrimSuffix(path, "/") + "/" + name)
			}
		}
	}
	tell("/")
	return b.String()
}

// sample is a menu with some of all.
func sample() api.Menu { return menu(12, 3, 0, 12, gen(3, p), gen(4, q), gen(12, r)) }

func TestX2Setup(t *testing.T) {
	f := bare(t, 64)
	f.mustNotRead(api.ErrNoEntry)
	mustBe(t, "Setup", boot.Setup(f.FS), api.OK)
	f.mustRead(show(api.Menu{}))
	b, e := f.Read("/boot/menu")
	if l, _ := f.List("/boot"); e != api.OK || string(b) != boot.Text(api.Menu{}) || !slices.Equal(l, []string{"menu"}) {
		t.Errorf("%q, %d, beside %q", b, e, l)
	}
	mustBe(t, "Check", f.Check(), api.OK)
	// What is there stays.
	f.write(sample())
	ahead := f.shown()
	mustBe(t, "Setup again", boot.Setup(f.FS), api.OK)
	same(t, "Setup again", f.shown(), ahead)
	f = f.anew()
	mustBe(t, "Setup anew", boot.Setup(f.FS), api.OK)
	f.mustRead(show(sample()))
}

// Of what is there in part the rest is made.
func TestX2SetupOfARest(t *testing.T) {
	f := bare(t, 64)
	mustBe(t, "Mkdir", f.Mkdir("/boot"), api.OK)
	mustBe(t, "Write", f.FS.Write("/boot/new", []byte("what was under way, and longer than a menu of nothing")), api.OK)
	mustBe(t, "Write", f.FS.Write("/boot/x", []byte("x")), api.OK)
	mustBe(t, "Setup", boot.Setup(f.FS), api.OK)
	f.mustRead(show(api.Menu{}))
	if l, _ := f.List("/boot"); !slices.Equal(l, []string{"menu", "x"}) {
		t.Errorf("%q", l)
	}
	// A menu that is none stays as well.
	for _, text := range []string{"", "x", boot.Text(api.Menu{}) + "\n"} {
		mustBe(t, "Write", f.FS.Write("/boot/menu", []byte(text)), api.OK)
		ahead := f.shown()
		mustBe(t, "Setup", boot.Setup(f.FS), api.OK)
		same(t, "Setup", f.shown(), ahead)
		f.mustNotRead(api.ErrMenu)
	}
}

// Whatever else stands at the paths: errors of the file system are answered on.
func TestX2SetupWhereOtherThingsStand(t *testing.T) {
	f := bare(t, 64)
	mustBe(t, "Write", f.FS.Write("/boot", []byte("x")), api.OK)
	mustBe(t, "Setup at a file", boot.Setup(f.FS), api.ErrNotDir)
	f.mustNotRead(api.ErrNotDir)
	mustBe(t, "Write at a file", boot.Write(f.FS, sample()), api.ErrNotDir)

	f = bare(t, 64)
	mustBe(t, "Symlink", f.Symlink("/none", "/boot"), api.OK)
	ahead := f.shown()
	mustBe(t, "Setup at a link that leads to nothing", boot.Setup(f.FS), api.ErrNoEntry)
	same(t, "Setup", f.shown(), ahead)
	mustBe(t, "Mkdir", f.Mkdir("/none"), api.OK)
	mustBe(t, "Setup at a link to a directory", boot.Setup(f.FS), api.OK)
	f.mustRead(show(api.Menu{}))
	if l, _ := f.List("/none"); !slices.Equal(l, []string{"menu"}) {
		t.Errorf("%q", l)
	}

	f = bare(t, 64)
	mustBe(t, "Symlink", f.Symlink("/boot", "/boot"), api.OK)
	mustBe(t, "Setup at a link to itself", boot.Setup(f.FS), api.ErrLinks)
	f.mustNotRead(api.ErrLinks)

	f = bare(t, 64)
	mustBe(t, "Mkdir", f.Mkdir("/boot"), api.OK)
	mustBe(t, "Mkdir", f.Mkdir("/boot/menu"), api.OK)
	mustBe(t, "Setup at a directory", boot.Setup(f.FS), api.OK)
	f.mustNotRead(api.ErrIsDir)
	mustBe(t, "Write at a directory", boot.Write(f.FS, sample()), api.ErrIsDir)
	b, _ := f.Read("/boot/new") // the first of its two calls was done
	same(t, "/boot/new", string(b), boot.Text(sample()))

	f = bare(t, 64)
	mustBe(t, "Mkdir", f.Mkdir("/boot"), api.OK)
	mustBe(t, "Mkdir", f.Mkdir("/boot/new"), api.OK)
	ahead = f.shown()
	mustBe(t, "Setup with a directory at /boot/new", boot.Setup(f.FS), api.ErrIsDir)
	same(t, "Setup", f.shown(), ahead)
}

// A link at /boot/menu is there, wherever it leads.
func TestX2SetupAtALink(t *testing.T) {
	f := bare(t, 64)
	mustBe(t, "Mkdir", f.Mkdir("/boot"), api.OK)
	mustBe(t, "Symlink", f.Symlink("/else", "/boot/menu"), api.OK)
	ahead := f.shown()
	mustBe(t, "Setup", boot.Setup(f.FS), api.OK)
	same(t, "Setup", f.shown(), ahead)
	f.mustNotRead(api.ErrNoEntry)
	mustBe(t, "Write", f.FS.Write("/else", []byte(boot.Text(sample()))), api.OK)
	f.mustRead(show(sample()))
	f.write(api.Menu{}) // takes the link's place
	f.mustRead(show(api.Menu{}))
	b, _ := f.Read("/else")
	same(t, "/else", string(b), boot.Text(sample()))
}

func TestX2ReadAndWrite(t *testing.T) {
	f := made(t, 64)
	for _, m := range []api.Menu{sample(), {}, menu(1, 1, 1, 1, gen(1, p)), menu(999999, 0, 0, 0), menu(40, 1, 16, 2, gens(row(16)...)...), sample()} {
		f.write(m)
		f.mustRead(show(m))
		b, _ := f.Read("/boot/menu")
		same(t, "/boot/menu", string(b), boot.Text(m))
		if l, _ := f.List("/boot"); !slices.Equal(l, []string{"menu"}) {
			t.Errorf("beside the menu: %q", l)
		}
		f = f.anew()
		f.mustRead(show(m))
	}
	ahead := f.shown()
	mustBe(t, "Write of what may not be", boot.Write(f.FS, menu(0, 1, 0, 0)), api.ErrMenu)
	same(t, "behind it", f.shown(), ahead)
	mustBe(t, "Remove", f.Remove("/boot/menu"), api.OK)
	f.mustNotRead(api.ErrNoEntry)
	f.write(sample())
	f.mustRead(show(sample()))
	mustBe(t, "Check", f.Check(), api.OK)
}

// Bytes of all kinds in the file.
func TestX2ReadOfWhatIsNoMenu(t *testing.T) {
	f := made(t, 200)
	good := boot.Text(sample())
	for _, text := range []string{"", "menu", good[1:], good[:len(good)-1], good + "\x00", good + good, "\xff\xfe", strings.Repeat("x", 1500), strings.Replace(good, "last 12", "last 11", 1)} {
		mustBe(t, "Write", f.FS.Write("/boot/menu", []byte(text)), api.OK)
		f.mustNotRead(api.ErrMenu)
	}
	mustBe(t, "Write", f.FS.Write("/boot/menu", []byte(good)), api.OK)
	f.mustRead(show(sample()))
}

// Write is the two calls that the chapter says: the text is put into /boot/new, and that takes the menu's place.
func TestX2WriteIsTwoCalls(t *testing.T) {
	a, b := made(t, 100), made(t, 100)
	for _, m := range []api.Menu{sample(), {}, menu(16, 1, 2, 3, gens(row(16)...)...), sample()} {
		a.write(m)
		mustBe(t, "Write", b.FS.Write("/boot/new", []byte(boot.Text(m))), api.OK)
		mustBe(t, "Rename", b.Rename("/boot/new", "/boot/menu"), api.OK)
		for i := range a.d.Len() {
			x, _ := a.d.Read(i)
			y, _ := b.d.Read(i)
			if !slices.Equal(x, y) {
				t.Fatal("the disks are unlike at", i)
			}
		}
	}
}

// Without power all that ask the disk say so.
func TestX2WithoutPower(t *testing.T) {
	f := made(t, 64)
	f.d.Crash(0)
	mustBe(t, "Setup", boot.Setup(f.FS), api.ErrOff)
	mustBe(t, "Write", boot.Write(f.FS, sample()), api.ErrOff)
	mustBe(t, "Write of what may not be", boot.Write(f.FS, menu(-1, 0, 0, 0)), api.ErrMenu)
	f.mustNotRead(api.ErrOff)
}
