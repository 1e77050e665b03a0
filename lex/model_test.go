package lex_test

import (
	"errors"
	"math"
	"math/big"
	"math/rand/v2"
	"regexp"
	"slices"
	"strings"
	"testing"

	"bootjack/api"
	"bootjack/lex"
)

// The model takes a text apart by patterns, and reckons with great numbers.
var (
	blanks  = regexp.MustCompile(`^(?:[ \t\n\r]|#[^\n]*)+`)
	names   = regexp.MustCompile(`^[A-Za-z_][A-Za-z0-9_'-]*`)
	numbers = regexp.MustCompile(`^([0-9]+)(?:(\.[0-9]+)(?:[eE]([+-]?)([0-9]+))?)?`)
	signs   = regexp.MustCompile(`^(?:\+\+|//|==|!=|<=|>=|&&|\|\||[]{}[()=;.:?!<>+*/-])`)
)

func modelFault(at int, e api.Errno) *api.Fault { return &api.Fault{At: at, Err: e} }

// model gives a text's tokens, each with its own bytes, or its fault.
func model(text string) ([]api.Token, []string, *api.Fault) {
	if len(text) > 4096 {
		return nil, nil, modelFault(4096, api.ErrSource)
	}
	var l []api.Token
	var parts []string
	at := 0
	for {
		at += len(blanks.FindString(text[at:]))
		if at == len(text) {
			return append(l, api.Token{At: at}), parts, nil
		}
		x, part, f := modelToken(text[at:])
		if f != nil {
			return nil, nil, modelFault(at+f.At, f.Err)
		}
		x.At = at
		l, parts = append(l, x), append(parts, part)
		at += len(part)
	}
}

func modelToken(left string) (api.Token, string, *api.Fault) {
	if s := names.FindString(left); s != "" {
		return api.Token{Kind: 1, Text: s}, s, nil
	}
	if m := numbers.FindStringSubmatch(left); m != nil {
		return modelNumber(m)
	}
	if left[0] == '"' {
		return modelString(left)
	}
	if s := signs.FindString(left); s != "" {
		return api.Token{Kind: 5, Text: s}, s, nil
	}
	return api.Token{}, "", modelFault(0, api.ErrByte)
}

func modelNumber(m []string) (api.Token, string, *api.Fault) {
	wrong := modelFault(0, api.ErrNumber)
	if len(m[1]) > 1 && m[1][0] == '0' {
		return api.Token{}, "", wrong
	}
	r := rational(m[1]+m[2], m[3], m[4])
	if m[2] == "" {
		if !r.Num().IsInt64() {
			return api.Token{}, "", wrong
		}
		return api.Token{Kind: 2, Text: m[0], Int: r.Num().Int64()}, m[0], nil
	}
	x, _ := r.Float64()
	if math.IsInf(x, 0) {
		return api.Token{}, "", wrong
	}
	return api.Token{Kind: 3, Text: m[0], Float: x}, m[0], nil
}

// rational gives what a number says. An exponent of more than five digits is cut to them: no text has digits enough to make up for either, so that it is too great with both, or nought.
func rational(mantissa, sign, exponent string) *big.Rat {
	exponent = strings.TrimLeft(exponent, "0")
	r, ok := new(big.Rat).SetString(mantissa + "e" + sign + "0" + exponent[:min(len(exponent), 5)])
	if !ok {
		panic("no number: " + mantissa)
	}
	return r
}

func modelString(left string) (api.Token, string, *api.Fault) {
	means := map[byte]byte{'n': 10, 't': 9, '"': 34, '\\': 92}
	var b []byte
	for i := 1; i < len(left); i++ {
		c, at := left[i], i
		if c == '"' {
			return api.Token{Kind: 4, Text: string(b)}, left[:i+1], nil
		}
		if c < 32 && c != 9 && c != 10 || c == 127 {
			return api.Token{}, "", modelFault(at, api.ErrByte)
		}
		if c == '\\' {
			i++
			if i == len(left) || means[left[i]] == 0 {
				return api.Token{}, "", modelFault(at, api.ErrByte)
			}
			c = means[left[i]]
		}
		if b = append(b, c); len(b) > 1024 {
			break
		}
	}
	return api.Token{}, "", modelFault(0, api.ErrString)
}

// mustAgree holds All against the model, and tells whether there were tokens.
func mustAgree(t *testing.T, text string) bool {
	t.Helper()
	want, parts, f := model(text)
	got, err := lex.All(text)
	if f != nil {
		var g *api.Fault
		if len(got) != 0 || !errors.As(err, &g) || *g != *f {
			t.Fatalf("All(%q) = %v, %v (%v), not %v", text, got, err, g, *f)
		}
		return false
	}
	if err != nil || !slices.Equal(got, want) {
		t.Fatalf("All(%q) = %v, %v, not %v", text, got, err, want)
	}
	mustRise(t, text, got)
	mustStay(t, parts, got)
	return true
}

func mustRise(t *testing.T, text string, l []api.Token) {
	t.Helper()
	for i := 1; i < len(l); i++ {
		if l[i-1].At >= l[i].At {
			t.Fatalf("All(%q): the places do not rise: %v", text, l)
		}
	}
}

// mustStay puts the tokens' bytes together, each with a blank behind it: they are the same tokens, but for At.
func mustStay(t *testing.T, parts []string, l []api.Token) {
	t.Helper()
	text, at := "", 0
	want := slices.Clone(l)
	for i, s := range parts {
		want[i].At = at
		text += s + " "
		at = len(text)
	}
	want[len(parts)].At = at
	if at > api.MaxSource {
		return
	}
	if got, err := lex.All(text); err != nil || !slices.Equal(got, want) {
		t.Fatalf("All(%q) = %v, %v, not %v", text, got, err, want)
	}
}

func pick(r *rand.Rand, of []string) string { return of[r.IntN(len(of))] }

// digits gives some of them, mostly without a nought ahead.
func digits(r *rand.Rand, most int) string {
	s := ""
	for range 1 + r.IntN(most) {
		s += string(rune('0' + r.IntN(10)))
	}
	if r.IntN(8) > 0 {
		if s = strings.TrimLeft(s, "0"); s == "" {
			s = "0"
		}
	}
	return s
}

func number(r *rand.Rand) string {
	s := digits(r, 22)
	if r.IntN(2) == 0 {
		s += "." + digits(r, 22)
	}
	if r.IntN(2) == 0 {
		s += pick(r, []string{"e", "E"}) + pick(r, []string{"", "+", "-"})
		if r.IntN(4) > 0 {
			s += digits(r, 3)
		}
	}
	return s
}

func quoted(r *rand.Rand) string {
	s := `"`
	for range r.IntN(6) {
		s += pick(r, []string{"a", " ", "#", "\n", "\t", "é", "\xff", `\n`, `\t`, `\"`, `\\`, "'", "&"})
	}
	if r.IntN(20) == 0 {
		s += pick(r, []string{`\`, `\q`, "\x00", "\r", "\x7f", "\x1f"})
	}
	if r.IntN(20) == 0 {
		return s
	}
	return s + `"`
}

func piece(r *rand.Rand) string {
	switch r.IntN(10) {
	case 0, 1:
		return number(r)
	case 2:
		return quoted(r)
	case 3, 4:
		return pick(r, []string{"++", "//", "==", "!=", "<=", ">=", "&&", "||", "{", "}", "[", "]", "(", ")", "=", ";", ".", ":", "?", "!", "<", ">", "+", "-", "*", "/"})
	case 5, 6:
		return pick(r, []string{" ", "\n", "\t", "\r", "  ", "# c\n", "#\n", "# \x00 \" @\n"})
	}
	return pick(r, []string{"a", "_", "e", "E", "e5", "x'", "a-b", "let", "in", "Z9", "-", "'"[:r.IntN(20)/19]})
}

func TestModelTexts(t *testing.T) {
	r := rand.New(rand.NewPCG(10, 1))
	good := 0
	for range 60000 {
		text := ""
		for range r.IntN(12) {
			text += piece(r)
		}
		if mustAgree(t, text) {
			good++
		}
	}
	if good < 20000 || good > 50000 {
		t.Errorf("%d texts of 60000 have tokens: too one-sided", good)
	}
}

func TestModelBytes(t *testing.T) {
	const few = "a0.e+-\"\\n #\n1'=&|/\x00\x7f\xff"
	r := rand.New(rand.NewPCG(10, 2))
	for range 60000 {
		b := make([]byte, r.IntN(10))
		for i := range b {
			b[i] = few[r.IntN(len(few))]
			if r.IntN(20) == 0 {
				b[i] = byte(r.IntN(256))
			}
		}
		mustAgree(t, string(b))
	}
}

// TestModelFloats takes floats with as many decimals as fit, about what is halfway between two of them too.
func TestModelFloats(t *testing.T) {
	r := rand.New(rand.NewPCG(10, 3))
	for range 3000 {
		x := math.Float64frombits(r.Uint64() >> 1)
		if math.IsInf(x, 0) || math.IsNaN(x) {
			continue
		}
		f := new(big.Float).SetPrec(1200).SetFloat64(x)
		up := new(big.Float).SetPrec(1200).SetFloat64(math.Nextafter(x, 0))
		f.Add(f, up)
		f.Mul(f, big.NewFloat(0.5))
		s := f.Text('f', 1100)
		s = strings.TrimRight(s, "0")
		if s[len(s)-1] == '.' {
			s += "0"
		}
		mustAgree(t, s)
		mustAgree(t, s[:len(s)-r.IntN(len(s)/2)])
		mustAgree(t, s+digits(r, 900))
		mustAgree(t, f.Text('e', 1+r.IntN(30)))
	}
}

// TestModelLong takes texts about the greatest length, and strings about theirs.
func TestModelLong(t *testing.T) {
	r := rand.New(rand.NewPCG(10, 4))
	for range 300 {
		text := ""
		for len(text) < api.MaxSource-20+r.IntN(20) {
			text += pick(r, []string{"a ", "1", ";", `"b"`, " ", "#\n", "1.5 ", "=="})
		}
		mustAgree(t, strings.ReplaceAll(text, "11", "1 "))
		s := `"` + strings.Repeat("a", 1000)
		for len(s) < 1015+r.IntN(20) {
			s += pick(r, []string{"a", `\n`, "\xff"})
		}
		mustAgree(t, s+quoted(r))
		mustAgree(t, s+`"`)
	}
}

func FuzzAll(f *testing.F) {
	for _, s := range []string{"", "a-b 1.5e3.x", `"a\n\"" # c`, "007", "a++b//c"} {
		f.Add(s)
	}
	f.Fuzz(func(t *testing.T, text string) {
		mustAgree(t, text)
	})
}
