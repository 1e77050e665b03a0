package lex_test

import (
	"errors"
	"math"
	"math/big"
	"slices"
	"strings"
	"testing"

	"bootjack/api"
	"bootjack/lex"
)

func end(at int) api.Token { return api.Token{Kind: api.TokEnd, At: at} }

func name(text string, at int) api.Token { return api.Token{Kind: api.TokName, Text: text, At: at} }

func sign(text string, at int) api.Token { return api.Token{Kind: api.TokSign, Text: text, At: at} }

func str(text string, at int) api.Token { return api.Token{Kind: api.TokString, Text: text, At: at} }

func whole(text string, n int64, at int) api.Token {
	return api.Token{Kind: api.TokInt, Text: text, Int: n, At: at}
}

func float(text string, x float64, at int) api.Token {
	return api.Token{Kind: api.TokFloat, Text: text, Float: x, At: at}
}

// short keeps long texts out of what a failed test tells.
func short(s string) string {
	if len(s) > 60 {
		return s[:50] + ".." + s[len(s)-8:]
	}
	return s
}

func mustBe(t *testing.T, text string, want ...api.Token) {
	t.Helper()
	got, err := lex.All(text)
	if err != nil || !slices.Equal(got, want) {
		t.Errorf("All(%q) = %v, %v, not %v", short(text), got, err, want)
	}
}

func mustFail(t *testing.T, text string, at int, e api.Errno) {
	t.Helper()
	got, err := lex.All(text)
	var f *api.Fault
	if !errors.As(err, &f) {
		t.Errorf("All(%q) = %v, %v, not %d at %d", short(text), got, err, e, at)
		return
	}
	if len(got) != 0 || f.At != at || f.Err != e || !errors.Is(err, e) {
		t.Errorf("All(%q) = %v, %d at %d, not %d at %d", short(text), got, f.Err, f.At, e, at)
	}
}

func TestExamples(t *testing.T) {
	mustBe(t, "", end(0))
	mustBe(t, "a-b 1.5e3.x", name("a-b", 0), float("1.5e3", 1500, 4), sign(".", 9), name("x", 10), end(11))
	mustBe(t, "1.a", whole("1", 1, 0), sign(".", 1), name("a", 2), end(3))
	mustBe(t, "1.5e", float("1.5", 1.5, 0), name("e", 3), end(4))
	mustBe(t, `"a\n\"" # c`, str("a\n\"", 0), end(11))
	mustBe(t, "a++b//c", name("a", 0), sign("++", 1), name("b", 3), sign("//", 4), name("c", 6), end(7))
	mustFail(t, "007", 0, api.ErrNumber)
	mustFail(t, "9223372036854775808", 0, api.ErrNumber)
	mustFail(t, `"a`, 0, api.ErrString)
	mustFail(t, `"\q"`, 1, api.ErrByte)
	mustFail(t, "@", 0, api.ErrByte)
	mustFail(t, "&", 0, api.ErrByte)
}

func TestL1SourceTooLong(t *testing.T) {
	n := api.MaxSource
	mustBe(t, strings.Repeat(" ", n), end(n))
	mustBe(t, strings.Repeat("a", n), name(strings.Repeat("a", n), 0), end(n))
	mustFail(t, strings.Repeat(" ", n+1), n, api.ErrSource)
	mustFail(t, strings.Repeat(" ", 3*n), n, api.ErrSource)
	// It goes ahead of all else, also of what stands ahead of it.
	for _, first := range []string{"@", "007", "\"", "\"\\q", "1.0e999", "#"} {
		mustFail(t, first+strings.Repeat(" ", n+1-len(first)), n, api.ErrSource)
	}
	mustFail(t, "@"+strings.Repeat(" ", n-1), 0, api.ErrByte)
}

func TestL1ManyTokens(t *testing.T) {
	var want []api.Token
	for i := range api.MaxSource {
		want = append(want, sign(";", i))
	}
	mustBe(t, strings.Repeat(";", api.MaxSource), append(want, end(api.MaxSource))...)
}

func TestL1Blanks(t *testing.T) {
	mustBe(t, " \t\n\r", end(4))
	mustBe(t, " \t\n\ra\r\n\t b ", name("a", 4), name("b", 9), end(11))
	for c := range 33 {
		text := string([]byte{byte(c), 'a'})
		if c == 9 || c == 10 || c == 13 || c == 32 {
			mustBe(t, text, name("a", 1), end(2))
		} else {
			mustFail(t, text, 0, api.ErrByte)
		}
	}
	mustFail(t, "a\x0bb", 1, api.ErrByte)
	mustFail(t, "a\xc2\xa0b", 1, api.ErrByte)
}

func TestL1Remarks(t *testing.T) {
	mustBe(t, "#", end(1))
	mustBe(t, "# no end", end(8))
	mustBe(t, "#\n", end(2))
	mustBe(t, "#\n#\n\n# c\n", end(9))
	mustBe(t, "a# c\nb", name("a", 0), name("b", 5), end(6))
	mustBe(t, "# a # b\nc # d", name("c", 8), end(13))
	// No byte but 10 ends it, and no byte within it is wrong.
	mustBe(t, "# @ \x00 \r \" \\ 007 \xff \x7f é\n1", whole("1", 1, 23), end(24))
	mustBe(t, "#\ra", end(3))
	mustBe(t, `"# no remark"`, str("# no remark", 0), end(13))
	mustBe(t, "1# 2", whole("1", 1, 0), end(4))
}

func TestL1Names(t *testing.T) {
	for _, s := range []string{"a", "z", "A", "Z", "_", "__", "x'", "x'1_", "a-", "a--b", "a-1", "_1", "let", "e5", "azAZ09_'-"} {
		mustBe(t, s, name(s, 0), end(len(s)))
	}
	mustBe(t, "a -b", name("a", 0), sign("-", 2), name("b", 3), end(4))
	mustBe(t, "-a", sign("-", 0), name("a", 1), end(2))
	mustBe(t, "a.b", name("a", 0), sign(".", 1), name("b", 2), end(3))
	mustBe(t, "1a", whole("1", 1, 0), name("a", 1), end(2))
	mustFail(t, "'a", 0, api.ErrByte)
	mustFail(t, "aé", 1, api.ErrByte)
	mustFail(t, "é", 0, api.ErrByte)
}

// TestL1EachByte tells of each byte what it begins, and whether a name goes on with it.
func TestL1EachByte(t *testing.T) {
	const first = "abcdefghijklmnopqrstuvwxyzABCDEFGHIJKLMNOPQRSTUVWXYZ_"
	const within = first + "0123456789'-"
	const signs = "{}[]()=;.:?!<>+-*/"
	for c := range 256 {
		s := string([]byte{byte(c)})
		switch {
		case strings.Contains(" \t\n\r#", s):
			mustBe(t, s, end(1))
			mustBe(t, "a"+s, name("a", 0), end(2))
		case strings.Contains(first, s):
			mustBe(t, s, name(s, 0), end(1))
		case '0' <= c && c <= '9':
			mustBe(t, s, whole(s, int64(c-'0'), 0), end(1))
		case c == '"':
			mustFail(t, s, 0, api.ErrString)
			mustFail(t, "a"+s, 1, api.ErrString)
		case strings.Contains(signs, s):
			mustBe(t, s, sign(s, 0), end(1))
		default:
			mustFail(t, s, 0, api.ErrByte)
		}
		if strings.Contains(within, s) {
			mustBe(t, "a"+s, name("a"+s, 0), end(2))
		} else if strings.Contains(signs, s) {
			mustBe(t, "a"+s, name("a", 0), sign(s, 1), end(2))
		}
	}
}

func TestL1WholeNumbers(t *testing.T) {
	mustBe(t, "0", whole("0", 0, 0), end(1))
	mustBe(t, "9", whole("9", 9, 0), end(1))
	mustBe(t, "10", whole("10", 10, 0), end(2))
	mustBe(t, "9223372036854775807", whole("9223372036854775807", math.MaxInt64, 0), end(19))
	mustBe(t, "-1", sign("-", 0), whole("1", 1, 1), end(2))
	mustBe(t, "1_0", whole("1", 1, 0), name("_0", 1), end(3))
	mustBe(t, "0x1", whole("0", 0, 0), name("x1", 1), end(3))
	mustBe(t, "1e5", whole("1", 1, 0), name("e5", 1), end(3))
	mustBe(t, "1.", whole("1", 1, 0), sign(".", 1), end(2))
	mustBe(t, "1..5", whole("1", 1, 0), sign(".", 1), sign(".", 2), whole("5", 5, 3), end(4))
	mustBe(t, "1. 5", whole("1", 1, 0), sign(".", 1), whole("5", 5, 3), end(4))
	mustBe(t, ".5", sign(".", 0), whole("5", 5, 1), end(2))
	mustBe(t, "0 0", whole("0", 0, 0), whole("0", 0, 2), end(3))
}

func TestL1WholeNumbersThatMayNotBe(t *testing.T) {
	for _, s := range []string{"00", "01", "007", "00.5", "01.5e3", "0000", "9223372036854775808", "9223372036854775810", "18446744073709551616", "99999999999999999999", "10000000000000000000", strings.Repeat("9", 4000)} {
		mustFail(t, s, 0, api.ErrNumber)
		mustFail(t, "a  "+s, 3, api.ErrNumber)
		mustFail(t, "-"+s+" @", 1, api.ErrNumber)
	}
	// What stands ahead is told first.
	mustFail(t, "@ 007", 0, api.ErrByte)
	mustFail(t, "007 @", 0, api.ErrNumber)
	mustFail(t, ".00", 1, api.ErrNumber)
}

func TestL1Floats(t *testing.T) {
	for _, c := range []struct {
		text string
		x    float64
	}{
		{"0.0", 0}, {"0.5", 0.5}, {"1.5", 1.5}, {"10.25", 10.25}, {"1.50", 1.5}, {"0.1", 0.1}, {"1.000", 1},
		{"1.5e3", 1500}, {"1.5E3", 1500}, {"1.5e+3", 1500}, {"1.5E+3", 1500}, {"1.5e-3", 0.0015}, {"1.5E-3", 0.0015}, {"1.5e0", 1.5}, {"1.5e00", 1.5}, {"1.5e007", 15000000},
		{"9223372036854775808.0", 1 << 63}, {"99999999999999999999.5", 1e20},
		{"0.0e999999999999999999999", 0}, {"1.0e-999999999999999999999", 0}, {"0.0e-1", 0},
	} {
		mustBe(t, c.text, float(c.text, c.x, 0), end(len(c.text)))
		mustBe(t, "x "+c.text+"}", name("x", 0), float(c.text, c.x, 2), sign("}", 2+len(c.text)), end(3+len(c.text)))
	}
}

func TestL1WhereAFloatEnds(t *testing.T) {
	mustBe(t, "1.5e3e4", float("1.5e3", 1500, 0), name("e4", 5), end(7))
	mustBe(t, "1.5e3.5", float("1.5e3", 1500, 0), sign(".", 5), whole("5", 5, 6), end(7))
	mustBe(t, "1.2.3", float("1.2", 1.2, 0), sign(".", 3), whole("3", 3, 4), end(5))
	mustBe(t, "1.2.3.4", float("1.2", 1.2, 0), sign(".", 3), float("3.4", 3.4, 4), end(7))
	mustBe(t, "1.5e+", float("1.5", 1.5, 0), name("e", 3), sign("+", 4), end(5))
	mustBe(t, "1.5e-", float("1.5", 1.5, 0), name("e-", 3), end(5))
	mustBe(t, "1.5e-a", float("1.5", 1.5, 0), name("e-a", 3), end(6))
	mustBe(t, "1.5e+-3", float("1.5", 1.5, 0), name("e", 3), sign("+", 4), sign("-", 5), whole("3", 3, 6), end(7))
	mustBe(t, "1.5E", float("1.5", 1.5, 0), name("E", 3), end(4))
	mustBe(t, "1.5 e3", float("1.5", 1.5, 0), name("e3", 4), end(6))
	mustBe(t, "1.5e 3", float("1.5", 1.5, 0), name("e", 3), whole("3", 3, 5), end(6))
	mustBe(t, "1.5f3", float("1.5", 1.5, 0), name("f3", 3), end(5))
	mustBe(t, "1.5p3", float("1.5", 1.5, 0), name("p3", 3), end(5))
	mustBe(t, "1.5_0", float("1.5", 1.5, 0), name("_0", 3), end(5))
	mustBe(t, "1.5+3", float("1.5", 1.5, 0), sign("+", 3), whole("3", 3, 4), end(5))
	mustBe(t, "1.00", float("1.00", 1, 0), end(4))
	mustFail(t, "1.5e3.00", 6, api.ErrNumber)
}

func TestL1FloatsTooGreat(t *testing.T) {
	for _, s := range []string{"1.0e309", "1.8e308", "1.0e999", "1.0e999999999999999999999", "17976931348623159.0e292", "0.1e310", strings.Repeat("9", 309) + ".0", strings.Repeat("9", 4000) + ".0e-3690"} {
		mustFail(t, s, 0, api.ErrNumber)
		mustFail(t, "[ "+s, 2, api.ErrNumber)
	}
	for _, most := range []string{"1.7976931348623157e308", "1.7976931348623158e308"} {
		mustBe(t, most, float(most, math.MaxFloat64, 0), end(len(most)))
	}
}

// decimals writes a number out in decimals, all of them, with a point within.
func decimals(x *big.Float) string {
	s := x.Text('f', 1200)
	return strings.TrimRight(s, "0") + "0"
}

// TestL1HalfwayFloats holds numbers that stand just between two floats, and a little beside, to the one nearest; of two as near, to the one whose last bit is 0.
func TestL1HalfwayFloats(t *testing.T) {
	for _, bits := range []uint64{0, 1, 2, 1<<52 - 1, 1 << 52, 1<<52 + 1, 0x3ff0000000000000, 0x3ff0000000000001, 0x3fefffffffffffff, 0x4340000000000000, 0x4340000000000001, 0x7feffffffffffffe} {
		low, high := math.Float64frombits(bits), math.Float64frombits(bits+1)
		mid := new(big.Float).SetPrec(2000).SetFloat64(low)
		mid.Add(mid, new(big.Float).SetFloat64(high))
		mid.Mul(mid, big.NewFloat(0.5))
		even := low
		if bits%2 == 1 {
			even = high
		}
		s := decimals(mid)
		mustBe(t, s, float(s, even, 0), end(len(s)))
		above := s + strings.Repeat("0", 900) + "1"
		mustBe(t, above, float(above, high, 0), end(len(above)))
		if bits < 1<<62 {
			below := strings.TrimRight(s, "0")
			below = below[:len(below)-1] + string(below[len(below)-1]-1) + strings.Repeat("9", 900)
			mustBe(t, below, float(below, low, 0), end(len(below)))
		}
	}
}

// TestL1GreatestFloat goes about what is halfway between the greatest float and 2^1024: from there on it is too great.
func TestL1GreatestFloat(t *testing.T) {
	mid := new(big.Int).Lsh(big.NewInt(1), 1024)
	mid.Sub(mid, new(big.Int).Lsh(big.NewInt(1), 970))
	s := mid.String()
	mustFail(t, s+".0", 0, api.ErrNumber)
	mustFail(t, s+".1", 0, api.ErrNumber)
	mustFail(t, s+"."+strings.Repeat("0", 2000)+"1", 0, api.ErrNumber)
	below := new(big.Int).Sub(mid, big.NewInt(1)).String() + "." + strings.Repeat("9", 2000)
	mustBe(t, below, float(below, math.MaxFloat64, 0), end(len(below)))
	mustFail(t, new(big.Int).Lsh(big.NewInt(1), 1024).String()+".0", 0, api.ErrNumber)
}

func TestL1LeastFloat(t *testing.T) {
	for _, c := range []struct {
		text string
		x    float64
	}{
		{"4.9e-324", math.SmallestNonzeroFloat64}, {"2.5e-324", math.SmallestNonzeroFloat64}, {"2.4e-324", 0}, {"2.2250738585072014e-308", 0x1p-1022}, {"2.2250738585072011e-308", math.Float64frombits(1<<52 - 1)},
		{"0." + strings.Repeat("0", 3999) + "15e3999", 0.15}, {"1" + strings.Repeat("0", 4000) + ".0e-4000", 1},
	} {
		mustBe(t, c.text, float(c.text, c.x, 0), end(len(c.text)))
	}
}

func TestL1Strings(t *testing.T) {
	mustBe(t, `""`, str("", 0), end(2))
	mustBe(t, `"a"`, str("a", 0), end(3))
	mustBe(t, ` "a" "b"`, str("a", 1), str("b", 5), end(8))
	mustBe(t, `"a""b"`, str("a", 0), str("b", 3), end(6))
	mustBe(t, `"\n\t\"\\"`, str("\n\t\"\\", 0), end(10))
	mustBe(t, `"\\"a`, str("\\", 0), name("a", 4), end(5))
	mustBe(t, `"\\n"`, str("\\n", 0), end(5))
	mustBe(t, `"\\\""`, str("\\\"", 0), end(6))
	mustBe(t, "\"\t\n\"", str("\t\n", 0), end(4))
	mustBe(t, "\"é\xff\x80\"", str("é\xff\x80", 0), end(6))
	mustBe(t, `"//=&@'"`, str("//=&@'", 0), end(8))
	mustBe(t, `x"1"2`, name("x", 0), str("1", 1), whole("2", 2, 4), end(5))
}

// TestL1EachByteOfAString tells of each byte what it is within a string, and behind a `\` there.
func TestL1EachByteOfAString(t *testing.T) {
	for c := range 256 {
		s := string([]byte{byte(c)})
		switch {
		case c == '"':
			mustBe(t, `"a`+s, str("a", 0), end(3))
		case c == '\\':
			mustFail(t, `"a`+s, 2, api.ErrByte)
		case c < 32 && c != 9 && c != 10, c == 127:
			mustFail(t, `"a`+s+`"`, 2, api.ErrByte)
			mustFail(t, `"a`+s, 2, api.ErrByte)
		default:
			mustBe(t, `"a`+s+`"`, str("a"+s, 0), end(4))
			mustFail(t, `"a`+s, 0, api.ErrString)
		}
		if i := strings.Index(`nt"\`, s); i >= 0 {
			mustBe(t, `"\`+s+`"`, str("\n\t\"\\"[i:i+1], 0), end(4))
			mustFail(t, `"\`+s, 0, api.ErrString)
		} else {
			mustFail(t, `"\`+s+`"`, 1, api.ErrByte)
			mustFail(t, `"\`+s, 1, api.ErrByte)
		}
	}
}

func TestL1StringsThatMayNotBe(t *testing.T) {
	mustFail(t, `"`, 0, api.ErrString)
	mustFail(t, `a "`, 2, api.ErrString)
	mustFail(t, `a "b" "c`, 6, api.ErrString)
	mustFail(t, `"\`, 1, api.ErrByte)
	mustFail(t, `"ab\`, 3, api.ErrByte)
	mustFail(t, `"\"`, 0, api.ErrString)
	mustFail(t, `"\\\"`, 0, api.ErrString)
	mustFail(t, `"\N"`, 1, api.ErrByte)
	mustFail(t, "\"\\\n\"", 1, api.ErrByte)
	mustFail(t, "\"a\rb", 2, api.ErrByte)
	mustFail(t, "\"\\\x00\"", 1, api.ErrByte)
	mustFail(t, `"\x41"`, 1, api.ErrByte)
	mustFail(t, "@ \"", 0, api.ErrByte)
	mustFail(t, "\" @", 0, api.ErrString)
}

func TestL1LongStrings(t *testing.T) {
	n := api.MaxString
	full := strings.Repeat("a", n)
	mustBe(t, `"`+full+`"`, str(full, 0), end(n+2))
	escapes := strings.Repeat(`\n`, n)
	mustBe(t, `"`+escapes+`"`, str(strings.Repeat("\n", n), 0), end(2*n+2))
	mustBe(t, `"`+full+`" "`+full+`"`, str(full, 0), str(full, n+3), end(2*n+5))
	for _, more := range []string{`a"`, `\n"`, `\""`, "a", `\n`, "aa", "\t\"", "\xff\""} {
		mustFail(t, `"`+full+more, 0, api.ErrString)
		mustFail(t, ` "`+escapes+more, 1, api.ErrString)
		mustFail(t, ` "\t`+full[1:]+more, 1, api.ErrString)
	}
}

// TestL1FirstFaultOfAString has two faults in one string: the one at the earlier byte is told, and at one byte ErrByte.
func TestL1FirstFaultOfAString(t *testing.T) {
	full := strings.Repeat("a", api.MaxString)
	for _, bad := range []string{"\x00", "\x7f", `\q`, `\`, "\r\"", `\q"`} {
		mustFail(t, `"`+full+bad, 1+len(full), api.ErrByte)
		mustFail(t, `"`+full+"a"+bad, 0, api.ErrString)
		mustFail(t, `"`+full+`\n`+bad, 0, api.ErrString)
		mustFail(t, `"`+full+`\"`+bad, 0, api.ErrString)
		mustFail(t, `"`+bad+full, 1, api.ErrByte)
	}
	mustFail(t, `"`+full+`a`+"\x00\"", 0, api.ErrString)
}

func TestL1Signs(t *testing.T) {
	for _, s := range []string{"++", "//", "==", "!=", "<=", ">=", "&&", "||"} {
		mustBe(t, s, sign(s, 0), end(2))
		mustBe(t, s+s, sign(s, 0), sign(s, 2), end(4))
	}
	mustBe(t, "+++", sign("++", 0), sign("+", 2), end(3))
	mustBe(t, "===", sign("==", 0), sign("=", 2), end(3))
	mustBe(t, "!==", sign("!=", 0), sign("=", 2), end(3))
	mustBe(t, "=!=", sign("=", 0), sign("!=", 1), end(3))
	mustBe(t, "<==", sign("<=", 0), sign("=", 2), end(3))
	mustBe(t, "/+/", sign("/", 0), sign("+", 1), sign("/", 2), end(3))
	mustBe(t, "= =", sign("=", 0), sign("=", 2), end(3))
	mustBe(t, "a&&b||c", name("a", 0), sign("&&", 1), name("b", 3), sign("||", 4), name("c", 6), end(7))
	mustFail(t, "&&&", 2, api.ErrByte)
	mustFail(t, "|", 0, api.ErrByte)
	mustFail(t, "|||", 2, api.ErrByte)
	mustFail(t, "& &", 0, api.ErrByte)
	mustFail(t, "a|&", 1, api.ErrByte)
}

// TestL1EachPairOfSigns puts any two bytes of signs together: just eight pairs are one sign.
func TestL1EachPairOfSigns(t *testing.T) {
	pairs := []string{"++", "//", "==", "!=", "<=", ">=", "&&", "||"}
	for _, a := range "{}[]()=;.:?!<>+-*/&|" {
		for _, b := range "{}[]()=;.:?!<>+-*/&|" {
			text := string(a) + string(b)
			switch {
			case slices.Contains(pairs, text):
				mustBe(t, text, sign(text, 0), end(2))
			case a == '&' || a == '|':
				mustFail(t, text, 0, api.ErrByte)
			case b == '&' || b == '|':
				mustFail(t, text, 1, api.ErrByte)
			default:
				mustBe(t, text, sign(string(a), 0), sign(string(b), 1), end(2))
			}
		}
	}
}

func TestL1BytesThatBeginNothing(t *testing.T) {
	for _, s := range []string{"@", "$", "%", "^", "~", "`", "'", ",", "\\", "\x00", "\x7f", "\x80", "\xff"} {
		mustFail(t, s, 0, api.ErrByte)
		mustFail(t, "{ "+s+" }", 2, api.ErrByte)
	}
}

func TestR2NoFaultIsNil(t *testing.T) {
	if _, err := lex.All("a"); err != nil {
		t.Errorf("All(a): %v", err)
	}
	if l, err := lex.All("a @"); len(l) != 0 || err == nil {
		t.Errorf("All(a @) = %v, %v", l, err)
	}
}

func TestR3AnswersShareNothing(t *testing.T) {
	const text = `a 1 "b"`
	one, _ := lex.All(text)
	two, _ := lex.All(text)
	for i := range one[:cap(one)] {
		one[:cap(one)][i] = sign("x", 99)
	}
	if !slices.Equal(two, []api.Token{name("a", 0), whole("1", 1, 2), str("b", 4), end(7)}) {
		t.Errorf("an answer was changed through another one: %v", two)
	}
	_, err := lex.All("@")
	var f, g *api.Fault
	errors.As(err, &f)
	f.At = 99
	_, err = lex.All("@")
	if errors.As(err, &g); g.At != 0 {
		t.Errorf("a fault was changed through another one: %v", g)
	}
}
