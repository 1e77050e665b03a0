package boot_test

import (
	"fmt"
	"math"
	"slices"
	"strconv"
	"strings"
	"testing"

	"bootjack/api"
	"bootjack/boot"
)

const (
	p = "/store/0123456789abcdef-x"
	q = "/store/fedcba9876543210-A_z.9-+"
	r = "/store/0000000000000000-nineteen.bytes.long" // as long as one may be
)

func gen(n int, path string) api.Generation { return api.Generation{Number: n, Path: path} }

// menu gives one with these numbers, and generations.
func menu(last, deflt, next, trial int, l ...api.Generation) api.Menu {
	return api.Menu{Last: last, Default: deflt, Next: next, Trial: trial, Gens: l}
}

// gens gives generations of these numbers, all with one path.
func gens(numbers ...int) []api.Generation {
	var l []api.Generation
	for _, n := range numbers {
		l = append(l, gen(n, p))
	}
	return l
}

// row gives the numbers from 1 to n.
func row(n int) []int {
	l := make([]int, n)
	for i := range l {
		l[i] = i + 1
	}
	return l
}

func show(m api.Menu) string {
	out := fmt.Sprintf("last %d default %d next %d trial %d", m.Last, m.Default, m.Next, m.Trial)
	for _, g := range m.Gens {
		out += fmt.Sprintf(" gen %d %q", g.Number, g.Path)
	}
	return out
}

func lines(l ...string) string { return strings.Join(l, "\n") + "\n" }

func same(t *testing.T, what, got, want string) {
	t.Helper()
	if got != want {
		t.Errorf("%s: %.500s; must be %.500s", what, got, want)
	}
}

func mustBe(t *testing.T, what string, got, want api.Errno) {
	t.Helper()
	if got != want {
		t.Fatalf("%s: %d, not %d", what, got, want)
	}
}

// mustWrite holds that a menu may be, its text, and that it comes back from it.
func mustWrite(t *testing.T, m api.Menu, want string) {
	t.Helper()
	if !boot.Right(m) {
		t.Errorf("%s: may not be", show(m))
	}
	same(t, "Text of "+show(m), strconv.Quote(boot.Text(m)), strconv.Quote(want))
	again, e := boot.Parse(want)
	if e != api.OK || show(again) != show(m) {
		t.Errorf("Parse of %q: %d, %s; must be %s", want, e, show(again), show(m))
	}
}

// mustNotBe holds that a menu may not be, which all but Before and Load tell.
func mustNotBe(t *testing.T, what string, m api.Menu) {
	t.Helper()
	if boot.Right(m) || boot.Text(m) != "" {
		t.Errorf("%s: %s may be, with %q", what, show(m), boot.Text(m))
	}
	zero := func(call string, m api.Menu, e api.Errno) {
		t.Helper()
		if e != api.ErrMenu || show(m) != show(api.Menu{}) {
			t.Errorf("%s: %s: %d, %s", what, call, e, show(m))
		}
	}
	for _, path := range []string{p, "/store/x"} {
		a, n, e := boot.Add(m, path)
		zero("Add", a, e)
		if n != 0 {
			t.Errorf("%s: Add: %d", what, n)
		}
	}
	for _, n := range []int{0, 1, 2, 17, -1, m.Default, m.Last} {
		a, e := boot.Remove(m, n)
		zero("Remove", a, e)
		a, e = boot.Default(m, n)
		zero("Default", a, e)
		a, e = boot.Next(m, n)
		zero("Next", a, e)
	}
	if e := boot.Write(nil, m); e != api.ErrMenu { // the file system is not asked
		t.Errorf("%s: Write: %d", what, e)
	}
}

func mustNotParse(t *testing.T, texts ...string) {
	t.Helper()
	for _, text := range texts {
		if m, e := boot.Parse(text); e != api.ErrMenu || show(m) != show(api.Menu{}) {
			t.Errorf("Parse of %.300q: %d, %s; must be %d, and nothing", text, e, show(m), api.ErrMenu)
		}
	}
}

func TestX1Texts(t *testing.T) {
	mustWrite(t, api.Menu{}, "menu\nlast 0\ndefault 0\nnext 0\ntrial 0\nend\n")
	mustWrite(t, menu(999999, 0, 0, 0), lines("menu", "last 999999", "default 0", "next 0", "trial 0", "end"))
	mustWrite(t, menu(1, 1, 1, 1, gen(1, p)), lines("menu", "last 1", "default 1", "next 1", "trial 1", "gen 1 "+p, "end"))
	mustWrite(t, menu(999999, 2, 10, 999999, gen(2, r), gen(10, q), gen(999999, p)),
		lines("menu", "last 999999", "default 2", "next 10", "trial 999999", "gen 2 "+r, "gen 10 "+q, "gen 999999 "+p, "end"))
	// Each number has a line of its own; paths may be of several, and need not rise.
	mustWrite(t, menu(9, 4, 0, 0, gens(4, 5, 6)...), lines("menu", "last 9", "default 4", "next 0", "trial 0", "gen 4 "+p, "gen 5 "+p, "gen 6 "+p, "end"))
	mustWrite(t, menu(9, 0, 5, 0, gens(4, 5, 6)...), lines("menu", "last 9", "default 0", "next 5", "trial 0", "gen 4 "+p, "gen 5 "+p, "gen 6 "+p, "end"))
	mustWrite(t, menu(9, 0, 0, 6, gens(4, 5, 6)...), lines("menu", "last 9", "default 0", "next 0", "trial 6", "gen 4 "+p, "gen 5 "+p, "gen 6 "+p, "end"))
	same(t, "a list without elements", boot.Text(api.Menu{Gens: []api.Generation{}}), boot.Text(api.Menu{}))
}

// A menu has at most 16 generations, with numbers up to 999999.
func TestX1Most(t *testing.T) {
	want := "menu\nlast 999999\ndefault 1\nnext 16\ntrial 8\n"
	for _, n := range row(16) {
		want += fmt.Sprintf("gen %d %s\n", n, p)
	}
	mustWrite(t, menu(999999, 1, 16, 8, gens(row(16)...)...), want+"end\n")
	mustNotBe(t, "one generation too many", menu(999999, 1, 16, 8, gens(row(17)...)...))
	mustNotBe(t, "one too many, that need not be asked for", menu(17, 0, 0, 0, gens(row(17)...)...))
	mustNotBe(t, "very many", menu(999999, 0, 0, 0, gens(row(100000)...)...))
	mustNotParse(t, want+"gen 17 "+p+"\nend\n", want, want+strings.Repeat("gen 17 "+p+"\n", 100000)+"end\n")
	mustNotBe(t, "a Last that is too great", menu(1000000, 0, 0, 0))
	mustNotBe(t, "a number that is too great", menu(1000000, 0, 0, 0, gens(1000000)...))
	mustNotBe(t, "the greatest Last", menu(math.MaxInt, 0, 0, 0))
}

func TestX1MenusThatMayNotBe(t *testing.T) {
	for _, n := range []int{-1, -999999, math.MinInt} {
		mustNotBe(t, "a Last below 0", menu(n, 0, 0, 0))
		mustNotBe(t, "a number below 0", menu(9, 0, 0, 0, gens(n, 1)...))
		mustNotBe(t, "a number below 0, that is asked for", menu(9, n, n, n, gens(n)...))
		mustNotBe(t, "a default below 0", menu(9, n, 0, 0, gens(1)...))
		mustNotBe(t, "a next below 0", menu(9, 0, n, 0, gens(1)...))
		mustNotBe(t, "a trial below 0", menu(9, 0, 0, n, gens(1)...))
	}
	mustNotBe(t, "the number 0", menu(9, 0, 0, 0, gens(0)...))
	mustNotBe(t, "a number above Last", menu(2, 0, 0, 0, gens(1, 2, 3)...))
	mustNotBe(t, "a number above a Last of 0", menu(0, 0, 0, 0, gens(1)...))
	mustNotBe(t, "the only number above Last", menu(2, 0, 0, 0, gens(3)...))
	for _, l := range [][]int{{1, 1}, {2, 1}, {1, 3, 2}, {1, 2, 2}, {1, 2, 3, 3, 4}, {3, 2, 1}, {4, 1, 2, 3}} {
		mustNotBe(t, "numbers that do not rise", menu(9, 0, 0, 0, gens(l...)...))
	}
	for _, n := range []int{1, 3, 5, 6, 7} {
		mustNotBe(t, "a default that there is not", menu(6, n, 0, 0, gens(2, 4)...))
		mustNotBe(t, "a next that there is not", menu(6, 0, n, 0, gens(2, 4)...))
		mustNotBe(t, "a trial that there is not", menu(6, 0, 0, n, gens(2, 4)...))
		mustNotBe(t, "a trial that there is not, beside others", menu(6, 2, 4, n, gens(2, 4)...))
	}
	mustNotBe(t, "a default of no generation", menu(1, 1, 0, 0))
}

// wrongPaths are texts that are no store paths, as near to one as may be.
func wrongPaths() []string {
	l := []string{
		"", "/", "/store", "/store/", "/store/x", "x",
		"/store/0123456789abcdef", "/store/0123456789abcdef-", "/store/0123456789abcde-x", "/store/0123456789abcdeff-x",
		"/store/0123456789abcdeF-x", "/store/0123456789abcdeg-x", "/store/0123456789abcdef_x",
		"/stare/0123456789abcdef-x", "store/0123456789abcdef-x", "/Store/0123456789abcdef-x", "//store/0123456789abcdef-x",
		r + "e", r + "/", "/" + p, "x" + p, p + "/", p + "/y", p + " ", " " + p, p + "\n", "\n" + p, p + "\x00", p + "\xff", p + "é",
		p + p, p + " " + p, p + "\n" + p, r + p, "/store/0123456789abcdef" + p, strings.Repeat(p, 1000),
	}
	for c := range 256 {
		if b := byte(c); !strings.ContainsRune("._-+", rune(b)) && (b < '0' || b > '9') && (b < 'a' || b > 'z') && (b < 'A' || b > 'Z') {
			l = append(l, "/store/0123456789abcdef-x"+string([]byte{b}), "/store/0123456789abcdef-"+string([]byte{b, 'x'}))
		}
	}
	return l
}

func TestX1PathsThatMayNotBe(t *testing.T) {
	for _, path := range wrongPaths() {
		mustNotBe(t, "a path", menu(3, 1, 1, 1, gen(1, path)))
		mustNotBe(t, "a path beside others", menu(3, 1, 1, 1, gen(1, p), gen(2, path), gen(3, q)))
		mustNotParse(t, lines("menu", "last 1", "default 0", "next 0", "trial 0", "gen 1 "+path, "end"))
	}
}

// Each byte that may stand in a store path does.
func TestX1Paths(t *testing.T) {
	const name = "abcdefghijklmnopqrstuvwxyzABCDEFGHIJKLMNOPQRSTUVWXYZ0123456789._-+"
	for i := range name {
		path := "/store/0123456789abcdef-" + name[i:i+1]
		mustWrite(t, menu(1, 0, 0, 0, gen(1, path)), lines("menu", "last 1", "default 0", "next 0", "trial 0", "gen 1 "+path, "end"))
	}
	for n := range 19 {
		path := "/store/abcdefabcdefabcd-" + name[n:2*n+1]
		mustWrite(t, menu(1, 0, 0, 0, gen(1, path)), lines("menu", "last 1", "default 0", "next 0", "trial 0", "gen 1 "+path, "end"))
	}
}

// A text with anything in it that its menu's text has not is none.
func TestX1TextsThatMayNotBe(t *testing.T) {
	good := lines("menu", "last 12", "default 1", "next 0", "trial 11", "gen 1 "+p, "gen 11 "+q, "end")
	mustWrite(t, menu(12, 1, 0, 11, gen(1, p), gen(11, q)), good)
	for i := range good {
		mustNotParse(t, good[:i], good[:i]+"\x00"+good[i+1:], good[:i]+" "+good[i:], good[:i]+"\n"+good[i:])
		if next := good[:i] + good[i+1:]; !strings.Contains("12", good[i:i+1]) && !strings.Contains(next, "\ngen 1 /store/0") { // a path's end may be cut
			mustNotParse(t, next)
		}
	}
	mustNotParse(t, "menu", good+good, good+"\n", good+"end\n", good+"x", "\n"+good, strings.ToUpper(good), strings.ReplaceAll(good, "\n", "\r\n"), strings.TrimSuffix(good, "\n"))
	parts := strings.SplitAfter(good, "\n")
	parts = parts[:len(parts)-1]
	for i := range parts {
		twice := slices.Insert(slices.Clone(parts), i, parts[i])
		mustNotParse(t, strings.Join(twice, ""))
		if !strings.HasPrefix(parts[i], "gen 1 ") {
			continue
		}
		for k := range i {
			other := slices.Clone(parts)
			other[i], other[k] = other[k], other[i]
			mustNotParse(t, strings.Join(other, ""))
		}
	}
	for i := range len(parts) - 1 { // any two lines in each other's place
		other := slices.Clone(parts)
		other[i], other[i+1] = other[i+1], other[i]
		mustNotParse(t, strings.Join(other, ""))
	}
}

// Numbers have no noughts ahead, no signs, nothing beside their digits.
func TestX1NumbersThatMayNotBe(t *testing.T) {
	for _, n := range []string{"", "01", "00", "+1", "-1", "-0", "1.", "1.0", "1e0", "0x1", "1_0", "x", "١", " 1", "1 ", "1\t", "1\x00",
		"1000000", "9223372036854775807", "9223372036854775808", "18446744073709551617", "-9223372036854775808", strings.Repeat("9", 5000), "0" + strings.Repeat("0", 5000)} {
		mustNotParse(t,
			lines("menu", "last "+n, "default 0", "next 0", "trial 0", "end"),
			lines("menu", "last 999999", "default "+n, "next 0", "trial 0", "gen 1 "+p, "end"),
			lines("menu", "last 999999", "default 0", "next "+n, "trial 0", "gen 1 "+p, "end"),
			lines("menu", "last 999999", "default 0", "next 0", "trial "+n, "gen 1 "+p, "end"),
			lines("menu", "last 999999", "default 0", "next 0", "trial 0", "gen "+n+" "+p, "end"))
	}
	mustNotParse(t, lines("menu", "last", "default 0", "next 0", "trial 0", "end"), lines("menu", "default 0", "next 0", "trial 0", "end"),
		lines("menu", "last 0", "next 0", "trial 0", "end"), lines("menu", "last 0", "default 0", "trial 0", "end"), lines("menu", "last 0", "default 0", "next 0", "end"),
		lines("last 0", "default 0", "next 0", "trial 0", "end"), lines("menu", "last 0", "default 0", "next 0", "trial 0"),
		lines("menu", "last 1", "default 0", "next 0", "trial 0", "gen 1", "end"), lines("menu", "last 1", "default 0", "next 0", "trial 0", "gen "+p, "end"),
		lines("menu 0", "last 0", "default 0", "next 0", "trial 0", "end"), lines("menu", "last 0", "default 0", "next 0", "trial 0", "end 0"),
		lines("menu", "last 0", "default 0", "next 0", "trial 0", "gen 1 "+p, "end"), lines("menu", "last 1", "default 2", "next 0", "trial 0", "gen 1 "+p, "end"))
}

// X1, X5: what Parse takes is what Text gives.
func FuzzX1Parse(f *testing.F) {
	f.Add("")
	f.Add("menu\nlast 0\ndefault 0\nnext 0\ntrial 0\nend\n")
	f.Add(lines("menu", "last 12", "default 1", "next 0", "trial 11", "gen 1 "+p, "gen 11 "+q, "end"))
	f.Add(lines("menu", "last 012", "default -1", "next 0", "trial", "gen", "gen 2", "gen 2 /store/x y", "end"))
	f.Fuzz(func(t *testing.T, text string) {
		m, e := boot.Parse(text)
		want, ok := plainParse(text)
		switch {
		case ok && e == api.OK && show(m) == show(want) && boot.Right(m) && boot.Text(m) == text:
		case !ok && e == api.ErrMenu && show(m) == show(api.Menu{}):
		default:
			t.Fatalf("%q: %d, %s; must be %t, %s", text, e, show(m), ok, show(want))
		}
	})
}
