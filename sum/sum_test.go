package sum_test

import (
	"bytes"
	"fmt"
	"math"
	"math/big"
	"math/rand"
	"strings"
	"testing"

	"bootjack/sum"
)

const begin = 14695981039346656037

// The chapter's word of a sum, reckoned with whole numbers of any size, so that nothing hangs on how uint64 wraps round.
func plain(s uint64, b []byte) uint64 {
	round := new(big.Int).Lsh(big.NewInt(1), 64)
	times := big.NewInt(1099511628211)
	n := new(big.Int).SetUint64(s)
	for _, c := range b {
		n.Xor(n, big.NewInt(int64(c)))
		n.Mul(n, times)
		n.Mod(n, round)
	}
	return n.Uint64()
}

func someBytes(r *rand.Rand, n int) []byte {
	b := make([]byte, n)
	r.Read(b)
	return b
}

// Sums at the edges of their digits and of 64 bits, and others between.
func someSums() []uint64 {
	all := []uint64{0, 1, 9, 10, 15, 16, 255, 256, begin, math.MaxInt64, math.MaxInt64 + 1, math.MaxUint64 - 1, math.MaxUint64}
	for i := range 64 {
		all = append(all, 1<<i, 1<<i-1, ^uint64(1<<i))
	}
	for i := range 16 {
		for d := range uint64(16) {
			all = append(all, d<<(4*i))
		}
	}
	r := rand.New(rand.NewSource(1))
	for range 500 {
		all = append(all, r.Uint64())
	}
	return all
}

func mustNotParse(t *testing.T, text string) {
	t.Helper()
	if s, ok := sum.Parse(text); ok || s != 0 {
		t.Errorf("Parse(%q): %d, %v", text, s, ok)
	}
}

func mustParse(t *testing.T, text string, want uint64) {
	t.Helper()
	if s, ok := sum.Parse(text); !ok || s != want {
		t.Errorf("Parse(%q): %d, %v, not %d", text, s, ok, want)
	}
}

// The chapter's table of examples, row by row.
func TestExamples(t *testing.T) {
	if s := sum.Text(sum.Sum(nil)); s != "cbf29ce484222325" {
		t.Error("of nothing:", s)
	}
	if s := sum.Text(sum.Sum([]byte("a"))); s != "af63dc4c8601ec8c" {
		t.Error("of a:", s)
	}
	mustParse(t, "00000000000000ff", 255)
	for _, s := range []string{"ff", "00000000000000FF", "000000000000000g"} {
		mustNotParse(t, s)
	}
}

func TestS1SumOfNothing(t *testing.T) {
	for _, b := range [][]byte{nil, {}} {
		if s := sum.Sum(b); s != begin {
			t.Errorf("Sum(%v): %d", b, s)
		}
	}
}

func TestS1SumOfEachByte(t *testing.T) {
	for c := range 256 {
		b := []byte{byte(c)}
		if s := sum.Sum(b); s != plain(begin, b) {
			t.Errorf("Sum(%v): %d", b, s)
		}
	}
}

// Sums that others have told, so that no slip of the model's own goes unseen.
func TestS1KnownSums(t *testing.T) {
	for _, row := range [][2]string{
		{"b", "af63df4c8601f1a5"},
		{"\x00", "af63bd4c8601b7df"},
		{"foobar", "85944171f73967e8"},
	} {
		if got := sum.Text(sum.Sum([]byte(row[0]))); got != row[1] {
			t.Errorf("Sum(%q): %s, not %s", row[0], got, row[1])
		}
	}
}

func TestS1SumOfManyBytes(t *testing.T) {
	r := rand.New(rand.NewSource(2))
	for n := range 300 {
		b := someBytes(r, n)
		if s := sum.Sum(b); s != plain(begin, b) {
			t.Fatalf("Sum(%v): %d", b, s)
		}
	}
	long := someBytes(r, 1<<16)
	if sum.Sum(long) != plain(begin, long) {
		t.Error("of 65536 bytes")
	}
}

func TestS1OrderCounts(t *testing.T) {
	if sum.Sum([]byte("ab")) == sum.Sum([]byte("ba")) {
		t.Error("ab is as ba")
	}
}

func TestS1UpdateByNothing(t *testing.T) {
	for _, s := range someSums() {
		if sum.Update(s, nil) != s || sum.Update(s, []byte{}) != s {
			t.Errorf("Update(%d, nothing): %d", s, sum.Update(s, nil))
		}
	}
}

func TestS1UpdateOfAnySum(t *testing.T) {
	r := rand.New(rand.NewSource(3))
	for _, s := range someSums() {
		b := someBytes(r, r.Intn(20))
		if got := sum.Update(s, b); got != plain(s, b) {
			t.Errorf("Update(%d, %v): %d", s, b, got)
		}
	}
}

func TestS1BytesHandedInStay(t *testing.T) {
	room := []byte("0123456789")
	b := room[2:5]
	sum.Sum(b)
	sum.Update(7, b)
	if string(room) != "0123456789" {
		t.Errorf("changed to %q", room)
	}
}

func TestS1NothingIsKept(t *testing.T) {
	b := []byte("one")
	first := sum.Sum(b)
	sum.Update(first, []byte("other"))
	sum.Sum([]byte("two"))
	if sum.Sum([]byte("one")) != first {
		t.Error("the second sum is unlike the first")
	}
	b[0] = 'x'
	if sum.Sum(b) == first {
		t.Error("the bytes of ahead were told")
	}
}

func TestS2Text(t *testing.T) {
	for _, s := range someSums() {
		if got, want := sum.Text(s), fmt.Sprintf("%016x", s); got != want {
			t.Errorf("Text(%d): %q, not %q", s, got, want)
		}
	}
}

func TestS2ParseOfEachByteAtEachPlace(t *testing.T) {
	for i := range 16 {
		for c := range 256 {
			b := bytes.Repeat([]byte{'1'}, 16)
			b[i] = byte(c)
			d := strings.IndexByte("0123456789abcdef", byte(c))
			if d < 0 {
				mustNotParse(t, string(b))
				continue
			}
			shift := 4 * (15 - i)
			mustParse(t, string(b), 0x1111111111111111-1<<shift+uint64(d)<<shift)
		}
	}
}

func TestS2ParseOfOtherLengths(t *testing.T) {
	for n := range 70 {
		if n != 16 {
			mustNotParse(t, strings.Repeat("0", n))
			mustNotParse(t, strings.Repeat("f", n))
		}
	}
}

// All are 16 bytes long, so that none is refused for its length.
func TestS2ParseOfOtherBytes(t *testing.T) {
	for _, s := range []string{
		"0x000000000000ff", "0X000000000000ff", "+00000000000000f", "-00000000000000f", "0000_0000_0000_0",
		" 0000000000000ff", "00000000000000f ", "00000000000000f\n", "\x00" + "0000000000000ff",
		"CBF29CE484222325", "cbf29ce48422232G", "éééééééé", "０000000000000f",
		"0123456789abcde\xff",
	} {
		if len(s) != 16 {
			t.Fatalf("%q has %d bytes", s, len(s))
		}
		mustNotParse(t, s)
	}
}

func TestS2ParseOfATextAndMore(t *testing.T) {
	const text = "cbf29ce484222325"
	for _, s := range []string{"", "0" + text, text + "0", " " + text, text + "\n", "0x" + text, text[1:], text[:15], text + text} {
		mustNotParse(t, s)
	}
}

func TestS2ParseOfTheGreatestAndTheLeast(t *testing.T) {
	mustParse(t, "ffffffffffffffff", math.MaxUint64)
	mustParse(t, "0000000000000000", 0)
	mustParse(t, "8000000000000000", 1<<63)
	mustParse(t, "0123456789abcdef", 0x0123456789abcdef)
}

func TestS3SumOfBytesAndOthersBehindThem(t *testing.T) {
	r := rand.New(rand.NewSource(4))
	for n := range 40 {
		b := someBytes(r, n)
		for i := range n + 1 {
			if sum.Update(sum.Sum(b[:i]), b[i:]) != sum.Sum(b) {
				t.Fatalf("%v parted at %d", b, i)
			}
		}
	}
}

func TestS3UpdateInManyParts(t *testing.T) {
	r := rand.New(rand.NewSource(5))
	for range 200 {
		b := someBytes(r, r.Intn(200))
		s := sum.Sum(nil)
		for rest := b; len(rest) > 0; {
			n := 1 + r.Intn(len(rest))
			s = sum.Update(s, rest[:n])
			rest = rest[n:]
		}
		if s != sum.Sum(b) {
			t.Fatalf("of %v in parts", b)
		}
	}
}

func TestS3UnlikeAtOnePlaceAlone(t *testing.T) {
	r := rand.New(rand.NewSource(6))
	for _, n := range []int{1, 2, 3, 8, 16, 33} {
		b := someBytes(r, n)
		for i := range n {
			seen := map[uint64]int{}
			for c := range 256 {
				b[i] = byte(c)
				s := sum.Sum(b)
				if other, ok := seen[s]; ok {
					t.Fatalf("%d bytes: %d and %d at %d have one sum", n, other, c, i)
				}
				seen[s] = c
			}
		}
	}
}

func TestS3ParseOfText(t *testing.T) {
	for _, s := range someSums() {
		mustParse(t, sum.Text(s), s)
	}
}
