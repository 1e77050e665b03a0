package boot_test

import (
	"fmt"
	"math/rand/v2"
	"regexp"
	"slices"
	"strconv"
	"strings"
	"testing"

	"bootjack/api"
	"bootjack/boot"
)

const pathWords = `/store/[0-9a-f]{16}-[a-zA-Z0-9._+-]{1,19}`

var (
	pathForm = regexp.MustCompile(`\A` + pathWords + `\z`)
	menuForm = regexp.MustCompile(`\Amenu\nlast (0|[1-9]\d{0,5})\ndefault (0|[1-9]\d{0,5})\nnext (0|[1-9]\d{0,5})\ntrial (0|[1-9]\d{0,5})\n((?:gen [1-9]\d{0,5} ` + pathWords + `\n){0,16})end\n\z`)
	genForm  = regexp.MustCompile(`gen (\d+) (\S+)\n`)
)

// plainRight says by the chapter's words whether a menu may be.
func plainRight(m api.Menu) bool {
	known := map[int]bool{0: true}
	ahead := 0
	for _, g := range m.Gens {
		if g.Number <= ahead || g.Number > m.Last || !pathForm.MatchString(g.Path) {
			return false
		}
		ahead = g.Number
		known[g.Number] = true
	}
	return m.Last >= 0 && m.Last <= 999999 && len(m.Gens) <= 16 && known[m.Default] && known[m.Next] && known[m.Trial]
}

// plainParse reads a text by its form.
func plainParse(text string) (api.Menu, bool) {
	w := menuForm.FindStringSubmatch(text)
	if w == nil {
		return api.Menu{}, false
	}
	number := func(s string) int {
		n, _ := strconv.Atoi(s)
		return n
	}
	m := menu(number(w[1]), number(w[2]), number(w[3]), number(w[4]))
	for _, g := range genForm.FindAllStringSubmatch(w[5], -1) {
		m.Gens = append(m.Gens, gen(number(g[1]), g[2]))
	}
	if !plainRight(m) {
		return api.Menu{}, false
	}
	return m, true
}

func plainText(m api.Menu) string {
	if !plainRight(m) {
		return ""
	}
	out := fmt.Sprintf("menu\nlast %d\ndefault %d\nnext %d\ntrial %d\n", m.Last, m.Default, m.Next, m.Trial)
	for _, g := range m.Gens {
		out += fmt.Sprintf("gen %d %s\n", g.Number, g.Path)
	}
	return out + "end\n"
}

// anyMenu gives one that may be, or is near to that.
func anyMenu(rng *rand.Rand) api.Menu {
	var m api.Menu
	n := 0
	for range rng.IntN(18) {
		n += 1 + rng.IntN(2)*rng.IntN(3)
		m.Gens = append(m.Gens, gen(n, []string{p, q, r}[rng.IntN(3)]))
	}
	m.Last = n + rng.IntN(2)*rng.IntN(5)
	pick := func() int {
		if len(m.Gens) == 0 || rng.IntN(3) == 0 {
			return 0
		}
		return m.Gens[rng.IntN(len(m.Gens))].Number
	}
	m.Default, m.Next, m.Trial = pick(), pick(), pick()
	odd := []*int{&m.Last, &m.Default, &m.Next, &m.Trial}
	for i := range m.Gens {
		odd = append(odd, &m.Gens[i].Number)
	}
	for range rng.IntN(2) * rng.IntN(3) {
		*odd[rng.IntN(len(odd))] += rng.IntN(5) - 2
	}
	if len(m.Gens) > 0 && rng.IntN(8) == 0 {
		m.Gens[rng.IntN(len(m.Gens))].Path = wrongPaths()[rng.IntN(20)]
	}
	if rng.IntN(10) == 0 {
		m.Last = 999998 + rng.IntN(3)
	}
	return m
}

// X1, X5: menus and their texts against the chapter's words; a menu is told by its text.
func TestX1MenusAgainstPlainWords(t *testing.T) {
	rng := rand.New(rand.NewPCG(22, 1))
	texts, right := map[string]string{}, 0
	for range 20000 {
		m := anyMenu(rng)
		if boot.Right(m) != plainRight(m) {
			t.Fatalf("Right of %s: %t", show(m), boot.Right(m))
		}
		text := boot.Text(m)
		if want := plainText(m); text != want {
			t.Fatalf("Text of %s: %q; must be %q", show(m), text, want)
		}
		if text == "" {
			continue
		}
		right++
		if other, ok := texts[text]; ok && other != show(m) {
			t.Fatalf("one text of %s and %s", other, show(m))
		}
		texts[text] = show(m)
		again, e := boot.Parse(text)
		if e != api.OK || show(again) != show(m) {
			t.Fatalf("Parse of %q: %d, %s", text, e, show(again))
		}
	}
	if right < 5000 || right > 15000 {
		t.Error("menus that may be:", right)
	}
}

// X1: texts of which some bytes are others.
func TestX1TextsAgainstPlainWords(t *testing.T) {
	rng := rand.New(rand.NewPCG(22, 2))
	read := 0
	for range 20000 {
		text := []byte(plainText(anyMenu(rng)))
		for range 1 + rng.IntN(2) {
			if len(text) > 0 {
				text[rng.IntN(len(text))] = "0123456789 \n/-agt"[rng.IntN(17)]
			}
		}
		m, e := boot.Parse(string(text))
		want, ok := plainParse(string(text))
		if ok != (e == api.OK) || !ok && e != api.ErrMenu || show(m) != show(want) {
			t.Fatalf("Parse of %q: %d, %s; must be %t, %s", text, e, show(m), ok, show(want))
		}
		if ok {
			read++
		}
	}
	if read < 1000 {
		t.Error("texts that are read:", read)
	}
}

// plainMenu is a menu whose generations are told by their numbers.
type plainMenu struct {
	last, deflt, next, trial int
	paths                    map[int]string
}

func (m *plainMenu) numbers() []int {
	var l []int
	for n := range m.paths {
		l = append(l, n)
	}
	slices.Sort(l)
	return l
}

func (m *plainMenu) menu() api.Menu {
	out := menu(m.last, m.deflt, m.next, m.trial)
	for _, n := range m.numbers() {
		out.Gens = append(out.Gens, gen(n, m.paths[n]))
	}
	return out
}

// do does one call by the chapter's words, on the menu and on the plain one.
func (m *plainMenu) do(t *testing.T, rng *rand.Rand, ahead api.Menu) (api.Menu, string, api.Errno) {
	t.Helper()
	n := rng.IntN(m.last+3) - 1
	if l := m.numbers(); len(l) > 0 && rng.IntN(4) > 0 {
		n = l[rng.IntN(len(l))]
	}
	_, there := m.paths[n]
	var got api.Menu
	var e, want api.Errno
	what := ""
	switch rng.IntN(9) {
	case 0, 1, 2:
		what = "Add"
		path := []string{p, q, r, "/store/x"}[rng.IntN(4)]
		var k int
		got, k, e = boot.Add(ahead, path)
		switch {
		case path == "/store/x":
			want = api.ErrStore
		case len(m.paths) == 16 || m.last == 999999:
			want = api.ErrFull
		default:
			m.last++
			m.paths[m.last] = path
		}
		if e == api.OK && k != m.last || e != api.OK && k != 0 {
			t.Fatalf("Add: %d beside %d", k, e)
		}
	case 3, 4, 5:
		what = "Remove"
		got, e = boot.Remove(ahead, n)
		switch {
		case !there:
			want = api.ErrGen
		case n == m.deflt || n == m.next || n == m.trial:
			want = api.ErrKept
		default:
			delete(m.paths, n)
		}
	case 6:
		what = "Default"
		got, e = boot.Default(ahead, n)
		if want = api.ErrGen; there {
			want, m.deflt, m.next, m.trial = api.OK, n, 0, 0
		}
	case 7:
		what = "Next"
		got, e = boot.Next(ahead, n)
		if want = api.ErrGen; there {
			want, m.next = api.OK, n
		}
	default:
		what = "Load"
		var k int
		var trial bool
		got, k, trial = boot.Load(ahead)
		run := m.deflt
		if m.next != 0 {
			run = m.next
		}
		if k != run || trial != (m.next != 0) {
			t.Fatalf("Load of %s: %d, %t", show(ahead), k, trial)
		}
		m.next, m.trial = 0, m.next
	}
	if e != want || e != api.OK && show(got) != show(api.Menu{}) {
		t.Fatalf("%s of %s, %d: %d, %s; must be %d", what, show(ahead), n, e, show(got), want)
	}
	return got, what, e
}

// X3 to X5: scripts of calls against plain words; a number is given once.
func TestX5ScriptsAgainstPlainWords(t *testing.T) {
	told := map[string]int{}
	for seed := range uint64(200) {
		rng := rand.New(rand.NewPCG(seed, 22))
		plain := &plainMenu{paths: map[int]string{}}
		if seed%5 == 0 {
			plain.last = 999970
		}
		now := plain.menu()
		given := map[int]bool{}
		for range 150 {
			got, what, e := plain.do(t, rng, now)
			told[fmt.Sprint(what, " ", int(e))]++
			if e != api.OK {
				continue
			}
			if show(got) != show(plain.menu()) || !boot.Right(got) {
				t.Fatalf("%s of %s: %s; must be %s", what, show(now), show(got), show(plain.menu()))
			}
			if what == "Add" {
				if given[got.Last] {
					t.Fatal("given twice", got.Last)
				}
				given[got.Last] = true
			}
			again, e := boot.Parse(boot.Text(got))
			if e != api.OK || show(again) != show(got) {
				t.Fatalf("Parse of Text of %s: %d, %s", show(got), e, show(again))
			}
			now = got
		}
	}
	for _, what := range strings.Split("Add 0,Add 65,Add 69,Remove 0,Remove 67,Remove 68,Default 0,Default 67,Next 0,Next 67,Load 0", ",") {
		if told[what] < 100 {
			t.Error("the scripts come by too little of", what, told)
		}
	}
}
