package parse_test

import (
	"errors"
	"math"
	"slices"
	"strconv"
	"strings"
	"testing"

	"bootjack/api"
	"bootjack/parse"
)

var kinds = []string{"", "int", "float", "string", "name", "list", "set", "rec", "select", "has", "call", "lambda", "let", "with", "if", "assert", "not", "neg", "binary", "inherit"}

// tell writes a node with all its fields that are not 0 or empty.
func tell(n api.Node) string {
	s := strconv.Itoa(n.Kind)
	if n.Kind > 0 && n.Kind < len(kinds) {
		s = kinds[n.Kind]
	}
	if n.Text != "" {
		s += ":" + n.Text
	}
	if n.Int != 0 {
		s += "#" + strconv.FormatInt(n.Int, 10)
	}
	if n.Float != 0 || math.Signbit(n.Float) {
		s += "~" + strconv.FormatFloat(n.Float, 'g', -1, 64)
	}
	if len(n.Names) > 0 {
		s += "{" + strings.Join(n.Names, ",") + "}"
	}
	if len(n.Kids) > 0 {
		var l []string
		for _, k := range n.Kids {
			l = append(l, strconv.Itoa(k))
		}
		s += "(" + strings.Join(l, ",") + ")"
	}
	return s + "@" + strconv.Itoa(n.At)
}

func tellAll(f []api.Node) string {
	var l []string
	for _, n := range f {
		l = append(l, tell(n))
	}
	return strings.Join(l, " ")
}

// tree writes an expression in brackets, without its places.
func tree(f []api.Node, i int) string {
	n := f[i]
	head := map[int]string{api.NList: "list", api.NSet: "set", api.NRec: "rec", api.NSelect: "." + n.Text, api.NHas: "?" + n.Text, api.NCall: "call", api.NLambda: n.Text + ":", api.NLet: "let", api.NWith: "with", api.NIf: "if", api.NAssert: "assert", api.NNot: "!", api.NNeg: "neg", api.NBinary: n.Text, api.NInherit: "inherit"}[n.Kind]
	switch n.Kind {
	case api.NInt:
		return strconv.FormatInt(n.Int, 10)
	case api.NFloat:
		return strconv.FormatFloat(n.Float, 'g', -1, 64)
	case api.NString:
		return strconv.Quote(n.Text)
	case api.NName:
		return n.Text
	}
	for k, kid := range n.Kids {
		head += " "
		if k < len(n.Names) {
			head += n.Names[k] + "="
		}
		head += tree(f, kid)
	}
	return "(" + head + ")"
}

// short keeps long texts out of what a failed test tells.
func short(s string) string {
	if len(s) > 80 {
		return s[:60] + ".." + s[len(s)-18:]
	}
	return s
}

func mustParse(t *testing.T, text string) []api.Node {
	t.Helper()
	f, err := parse.Parse(text)
	if err != nil || len(f) == 0 {
		var x *api.Fault
		errors.As(err, &x)
		t.Fatalf("Parse(%q) = %v, %v (%v)", short(text), f, err, x)
	}
	return f
}

// mustBe holds all nodes against want.
func mustBe(t *testing.T, text, want string) {
	t.Helper()
	if got := tellAll(mustParse(t, text)); got != want {
		t.Errorf("Parse(%q) = %s, not %s", short(text), got, want)
	}
}

// mustMean holds the expression in brackets against want.
func mustMean(t *testing.T, text, want string) {
	t.Helper()
	f := mustParse(t, text)
	if got := tree(f, len(f)-1); got != want {
		t.Errorf("Parse(%q) = %s, not %s", short(text), got, want)
	}
}

func mustFail(t *testing.T, text string, at int, e api.Errno) {
	t.Helper()
	f, err := parse.Parse(text)
	x, ok := err.(*api.Fault)
	if !ok || x == nil {
		t.Errorf("Parse(%q) = %s, %v, not %d at %d", short(text), tellAll(f), err, e, at)
		return
	}
	if len(f) != 0 || x.At != at || x.Err != e || !errors.Is(err, e) {
		t.Errorf("Parse(%q) = %s, %d at %d, not %d at %d", short(text), tellAll(f), x.Err, x.At, e, at)
	}
}

// wrongAt fails where the mark ^ stands: there it is ErrWord, or ErrShort at the end.
func wrongAt(t *testing.T, marked string) {
	t.Helper()
	at := strings.Index(marked, "^")
	text := marked[:at] + marked[at+1:]
	if at == len(text) {
		mustFail(t, text, at, api.ErrShort)
	} else {
		mustFail(t, text, at, api.ErrWord)
	}
}

func twiceAt(t *testing.T, marked string) {
	t.Helper()
	at := strings.Index(marked, "^")
	mustFail(t, marked[:at]+marked[at+1:], at, api.ErrTwice)
}

func TestExamples(t *testing.T) {
	mustBe(t, "f x.y 1", "name:f@0 name:x@2 select:y(1)@3 call(0,2)@0 int#1@6 call(3,4)@0")
	mustBe(t, "a: a + 1 * 2", "name:a@3 int#1@7 int#2@11 binary:*(1,2)@9 binary:+(0,3)@5 lambda:a(4)@0")
	mustBe(t, "{ a.b = 1; c = 2; a.d = 3; }", "int#1@8 int#3@24 set{b,d}(0,1)@2 int#2@15 set{a,c}(2,3)@0")
	mustFail(t, "{ a = 1; a.b = 2; }", 9, api.ErrTwice)
	mustFail(t, "{ a.b = 1; a = 2; }", 11, api.ErrTwice)
	mustFail(t, "{ inherit a a; }", 12, api.ErrTwice)
	mustFail(t, "1 < 2 < 3", 6, api.ErrWord)
	mustFail(t, "let in", 6, api.ErrShort)
	mustFail(t, "[1 -2]", 3, api.ErrWord)
}

// TestP1EachKind tells of each kind all fields, and where it is At.
func TestP1EachKind(t *testing.T) {
	mustBe(t, " 7", "int#7@1")
	mustBe(t, "0", "int@0")
	mustBe(t, "9223372036854775807", "int#9223372036854775807@0")
	mustBe(t, " 1.50", "float~1.5@1")
	mustBe(t, "0.0", "float@0")
	mustBe(t, " \"a\\nb\"", "string:a\nb@1")
	mustBe(t, `""`, "string@0")
	mustBe(t, " a-b'", "name:a-b'@1")
	mustBe(t, " [ ]", "list@1")
	mustBe(t, "[ a 1 [ b ] ]", "name:a@2 int#1@4 name:b@8 list(2)@6 list(0,1,3)@0")
	mustBe(t, " { }", "set@1")
	mustBe(t, " { b = 1; a = 2; }", "int#1@7 int#2@14 set{b,a}(0,1)@1")
	mustBe(t, " rec { }", "rec@1")
	mustBe(t, " rec { a = a; }", "name:a@11 rec{a}(0)@1")
	mustBe(t, "a .b", "name:a@0 select:b(0)@2")
	mustBe(t, `a."b c"`, "name:a@0 select:b c(0)@1")
	mustBe(t, `a.""`, "name:a@0 select(0)@1")
	mustBe(t, "a . b or c", "name:a@0 name:c@9 select:b(0,1)@2")
	mustBe(t, "a ? b", "name:a@0 has:b(0)@2")
	mustBe(t, `a?"b"`, "name:a@0 has:b(0)@1")
	mustBe(t, " f a b", "name:f@1 name:a@3 call(0,1)@1 name:b@5 call(2,3)@1")
	mustBe(t, " a: b", "name:b@4 lambda:a(0)@1")
	mustBe(t, " let in 1", "int#1@8 let(0)@1")
	mustBe(t, " let b = 1; a = 2; in a", "int#1@9 int#2@16 name:a@22 let{b,a}(0,1,2)@1")
	mustBe(t, " with a; b", "name:a@6 name:b@9 with(0,1)@1")
	mustBe(t, " if a then b else c", "name:a@4 name:b@11 name:c@18 if(0,1,2)@1")
	mustBe(t, " assert a; b", "name:a@8 name:b@11 assert(0,1)@1")
	mustBe(t, " ! a", "name:a@3 not(0)@1")
	mustBe(t, " - a", "name:a@3 neg(0)@1")
	mustBe(t, "{ inherit b a; }", "inherit:b@10 inherit:a@12 set{b,a}(0,1)@0")
	mustBe(t, "let inherit a; in a", "inherit:a@12 name:a@18 let{a}(0,1)@0")
	for _, s := range []string{"||", "&&", "==", "!=", "<", "<=", ">", ">=", "//", "+", "-", "*", "/", "++"} {
		b := strconv.Itoa(3 + len(s))
		mustBe(t, "a "+s+" b", "name:a@0 name:b@"+b+" binary:"+s+"(0,1)@2")
	}
}

// TestP1Places has the places that are not a first token's, or where brackets stand.
func TestP1Places(t *testing.T) {
	mustBe(t, "((a))", "name:a@2")
	mustBe(t, "( [ ] )", "list@2")
	mustBe(t, "(f) (x)", "name:f@1 name:x@5 call(0,1)@1")
	mustBe(t, "(a.b) c", "name:a@1 select:b(0)@2 name:c@6 call(1,2)@2")
	mustBe(t, "(a + b) c d", "name:a@1 name:b@5 binary:+(0,1)@3 name:c@8 call(2,3)@3 name:d@10 call(4,5)@3")
	mustBe(t, "(a: b) c", "name:b@4 lambda:a(0)@1 name:c@7 call(1,2)@1")
	mustBe(t, "(a ? b).c", "name:a@1 has:b(0)@3 select:c(1)@7")
	mustBe(t, "(a)\n+ # c\n (b)", "name:a@1 name:b@12 binary:+(0,1)@4")
	mustBe(t, "(-a) . b", "name:a@2 neg(0)@1 select:b(1)@5")
	mustBe(t, "rec{}.a", "rec@0 select:a(0)@5")
	mustBe(t, "1.5.x", "float~1.5@0 select:x(0)@3")
	mustBe(t, "a - b - c", "name:a@0 name:b@4 binary:-(0,1)@2 name:c@8 binary:-(2,3)@6")
	mustBe(t, "a // b // c", "name:a@0 name:b@5 name:c@10 binary://(1,2)@7 binary://(0,3)@2")
	mustBe(t, "a.b.c", "name:a@0 select:b(0)@1 select:c(1)@3")
	mustBe(t, "- - a", "name:a@4 neg(0)@2 neg(1)@0")
}

// rowOf numbers the rows of signs, the lowest first.
var rowOf = map[string]int{"||": 1, "&&": 2, "==": 3, "!=": 3, "<": 4, "<=": 4, ">": 4, ">=": 4, "//": 5, "+": 7, "-": 7, "*": 8, "/": 8, "++": 9}

// TestP1TwoSigns takes each pair of signs: by their rows they go together from the left, from the right, or not at all.
func TestP1TwoSigns(t *testing.T) {
	for one, i := range rowOf {
		for two, k := range rowOf {
			text := "a " + one + " b " + two + " c"
			fromLeft := "(" + two + " (" + one + " a b) c)"
			fromRight := "(" + one + " a (" + two + " b c))"
			switch {
			case i > k:
				mustMean(t, text, fromLeft)
			case i < k:
				mustMean(t, text, fromRight)
			case i == 3 || i == 4:
				mustFail(t, text, len("a "+one+" b "), api.ErrWord)
			case i == 5 || i == 9:
				mustMean(t, text, fromRight)
			default:
				mustMean(t, text, fromLeft)
			}
			mustMean(t, "(a "+one+" b) "+two+" c", fromLeft)
			mustMean(t, "a "+one+" (b "+two+" c)", fromRight)
		}
	}
}

// TestP1PrefixedSigns holds `!` and `-` against the signs of all rows.
func TestP1PrefixedSigns(t *testing.T) {
	for s, i := range rowOf {
		if i > 6 {
			mustMean(t, "!a "+s+" b", "(! ("+s+" a b))")
			mustFail(t, "a "+s+" !b", len("a "+s+" "), api.ErrWord)
		} else {
			mustMean(t, "!a "+s+" b", "("+s+" (! a) b)")
			mustMean(t, "a "+s+" !b", "("+s+" a (! b))")
		}
		mustMean(t, "-a "+s+" b", "("+s+" (neg a) b)")
		mustMean(t, "a "+s+" -b", "("+s+" a (neg b))")
	}
	mustMean(t, "!!a", "(! (! a))")
	mustMean(t, "--a", "(neg (neg a))")
	mustMean(t, "!-a", "(! (neg a))")
	mustMean(t, "! f a", "(! (call f a))")
	mustMean(t, "-f a", "(neg (call f a))")
	mustMean(t, "-a.b", "(neg (.b a))")
	mustMean(t, "-a ? b", "(neg (?b a))")
	mustMean(t, "!a ? b", "(! (?b a))")
	mustMean(t, "f (-a)", "(call f (neg a))")
	mustMean(t, "f -a", "(- f a)")
	mustMean(t, "f-a", "f-a")
	mustMean(t, "!a // !b", "(// (! a) (! b))")
	mustMean(t, "-a ++ -b", "(++ (neg a) (neg b))")
	wrongAt(t, "-^!a")
	wrongAt(t, "f ^!a")
	wrongAt(t, "[ ^-1 ]")
	wrongAt(t, "[ ^!a ]")
}

func TestP1HasCallSelect(t *testing.T) {
	mustMean(t, "f a ? b", "(?b (call f a))")
	mustMean(t, "a ? b + c ? d", "(+ (?b a) (?d c))")
	mustMean(t, "a ? b == c", "(== (?b a) c)")
	mustMean(t, "a.b ? c", "(?c (.b a))")
	wrongAt(t, "a ? b ^? c")
	wrongAt(t, "a ? b^.c")
	wrongAt(t, "a ? b ^c")
	wrongAt(t, "a ? ^1")
	wrongAt(t, "a ? ^or")
	wrongAt(t, "a ? ^(b)")
	wrongAt(t, "a ?^")
	wrongAt(t, "^? b")
	mustMean(t, "f 1 1.5 \"s\" (a) [ ] { } rec { }", `(call (call (call (call (call (call (call f 1) 1.5) "s") a) (list)) (set)) (rec))`)
	mustMean(t, "1 2", "(call 1 2)")
	mustMean(t, `"a" "b"`, `(call "a" "b")`)
	mustMean(t, "{ } { }", "(call (set) (set))")
	mustMean(t, "f a.b c.d", "(call (call f (.b a)) (.d c))")
	wrongAt(t, "f ^let in 1")
	wrongAt(t, "f ^if a then b else c")
	wrongAt(t, "a b^: c")
	wrongAt(t, "a || b^: c")
	mustMean(t, "(a).b", "(.b a)")
	mustMean(t, "{ }.b", "(.b (set))")
	mustMean(t, "[ ].b", "(.b (list))")
	mustMean(t, "1.b", "(.b 1)")
	mustMean(t, `"s"."t u".v`, `(.v (.t u "s"))`)
	mustMean(t, `a."let"`, "(.let a)")
	wrongAt(t, "a.^1")
	wrongAt(t, "a.^")
	wrongAt(t, "a.^let")
	wrongAt(t, "a.^(b)")
	wrongAt(t, "^.a")
	wrongAt(t, "a.^.b")
}

// TestP1Else takes `or`: it goes with the attribute right ahead, and what is else takes all attributes behind it.
func TestP1Else(t *testing.T) {
	mustMean(t, "a.b or c", "(.b a c)")
	mustMean(t, "a.b.c or d", "(.c (.b a) d)")
	mustMean(t, "a.b or c.d", "(.b a (.d c))")
	mustMean(t, "a.b or c.d or e", "(.b a (.d c e))")
	mustMean(t, "a.b or c.d or e.f", "(.b a (.d c (.f e)))")
	mustMean(t, "(a.b or c).d", "(.d (.b a c))")
	mustMean(t, "f a.b or c d", "(call (call f (.b a c)) d)")
	mustMean(t, "a.b or c d", "(call (.b a c) d)")
	mustMean(t, "[ a.b or c d ]", "(list (.b a c) d)")
	mustMean(t, "a.b or (c d)", "(.b a (call c d))")
	mustMean(t, "a.b or c + d", "(+ (.b a c) d)")
	mustMean(t, "a.b or rec { }", "(.b a (rec))")
	mustMean(t, `a."b" or "c"`, `(.b a "c")`)
	mustMean(t, `a."or" or b`, "(.or a b)")
	wrongAt(t, "a ^or b")
	wrongAt(t, "a.b or c ^or d")
	wrongAt(t, "a.b or^")
	wrongAt(t, "a.b or ^-c")
	wrongAt(t, "a.b or ^!c")
	wrongAt(t, "a.b or ^or")
	wrongAt(t, "a.b or ^let in 1")
	wrongAt(t, "a.b or c^: d")
	wrongAt(t, "a ? b ^or c")
	wrongAt(t, "(a.b) ^or c")
	wrongAt(t, "1.5 ^or c")
}

func TestP1Exprs(t *testing.T) {
	mustMean(t, "a: b: a b", "(a: (b: (call a b)))")
	mustMean(t, "a:a", "(a: a)")
	mustMean(t, "a: a || b", "(a: (|| a b))")
	mustMean(t, "with a; b: c", "(with a (b: c))")
	mustMean(t, "with a; with b; c", "(with a (with b c))")
	mustMean(t, "assert a == b; c + d", "(assert (== a b) (+ c d))")
	mustMean(t, "if if a then b else c then d else if e then g else h", "(if (if a b c) d (if e g h))")
	mustMean(t, "if a then b else c d", "(if a b (call c d))")
	mustMean(t, "let a = 1; in a + a", "(let a=1 (+ a a))")
	mustMean(t, "let in let in a", "(let (let a))")
	mustMean(t, "with let in a; if b then c: d else e", "(with (let a) (if b (c: d) e))")
	mustMean(t, "[ (a: a) (let in b) ]", "(list (a: a) (let b))")
	mustMean(t, "{ a = b: b; c = let in d; }", "(set a=(b: b) c=(let d))")
	mustMean(t, "(a: a) b", "(call (a: a) b)")
	for _, s := range []string{"^", "a:^", "a: ^:", "let^", "let a^", "let a =^", "let a = 1^", "let a = 1;^", "let a = 1; in^", "with^", "with a^", "with a;^", "if^", "if a^", "if a then^", "if a then b^", "if a then b else^", "assert^", "assert a^", "assert a;^", "(^", "(a^", "[^", "[ a^", "{^", "{ a^", "{ a =^", "{ a = 1^", "{ a = 1;^", "{ a.^", "{ inherit^", "{ inherit a^", "{ inherit a;^", "rec^", "rec {^", "!^", "-^", "a +^", "a //^", "a ++^", "a ==^", "a ||^", "# a^", " \n^"} {
		wrongAt(t, s)
	}
	for _, s := range []string{"^)", "^]", "^}", "^;", "^=", "^:", "^.", "^+", "^in", "^then", "^else", "^or", "^inherit a;", "(^)", "a ^)", "a ^;", "a ^=", "a ^in", "a ^then b", "(a ^]", "[ a ^)", "[ a ^; ]", "{ a = 1; ^)", "let a = 1; ^}", "let a = 1 ^in a", "let ^1 in a", "let a = ^; in a", "with a b^: c", "with a ^then", "if a ^else b", "if a then b ^; c", "if a then b ^then c", "assert a ^in b", "rec ^a", "rec ^[ ]", "rec ^rec { }", "a + ^* b", "a + ^let in b", "a == ^if b then c else d", "\"a\"^: b", "1^: b", "(a)^: b", "a :^: b", "{ a^: b }"} {
		wrongAt(t, s)
	}
}

// TestP1Keywords holds each keyword to be no name, wherever a name may stand; as a string it is an attribute's name.
func TestP1Keywords(t *testing.T) {
	for _, w := range []string{"let", "in", "rec", "with", "if", "then", "else", "inherit", "assert", "or"} {
		wrongAt(t, "a.^"+w)
		wrongAt(t, "a ? ^"+w)
		wrongAt(t, "{ inherit ^"+w+"; }")
		wrongAt(t, "{ a.^"+w+" = 1; }")
		if w != "inherit" {
			wrongAt(t, "{ ^"+w+" = 1; }")
		}
		if w != "rec" {
			wrongAt(t, "[ ^"+w+" ]")
			wrongAt(t, "f ^"+w)
		}
		mustMean(t, `a."`+w+`" ? "`+w+`"`, "(?"+w+" (."+w+" a))")
		mustMean(t, `{ "`+w+`" = "`+w+`"; }`, `(set `+w+`="`+w+`")`)
		if _, err := parse.Parse(w + ": 1"); err == nil {
			t.Errorf("%s is a function's name", w)
		}
		for _, near := range []string{w + "'", w + "_", w + "-", "_" + w, strings.ToUpper(w), w + "0"} {
			mustMean(t, near+": "+near+"."+near+" ? "+near, "("+near+": (?"+near+" (."+near+" "+near+")))")
			mustMean(t, "let inherit "+near+"; in 1", "(let "+near+"=(inherit) 1)")
		}
	}
	wrongAt(t, "let^: 1")
	wrongAt(t, "rec^: 1")
	wrongAt(t, "with ^: 1")
	wrongAt(t, "{ inherit ^= 1; }")
	// A string is neither a keyword nor a sign, whatever its text.
	wrongAt(t, `"let" ^in 1`)
	wrongAt(t, `( a ")"^`)
	mustMean(t, `a ":" b "+" "("`, `(call (call (call (call a ":") b) "+") "(")`)
	mustMean(t, `a "or" b`, `(call (call a "or") b)`)
	wrongAt(t, `{ a ^"=" 1; }`)
	wrongAt(t, `let a = 1; "in"^`)
	wrongAt(t, `{ inherit ^"a"; }`)
}

func TestP1Bindings(t *testing.T) {
	mustMean(t, `{ a = 1; "b c" = 2; "d" = 3; "" = 4; }`, "(set a=1 b c=2 d=3 =4)")
	mustMean(t, "rec { inherit x y; z = x; inherit; inherit v; }", "(rec x=(inherit) y=(inherit) z=x v=(inherit))")
	mustMean(t, "{ inherit; }", "(set)")
	mustMean(t, "let inherit a; b = a; in { inherit a b; }", "(let a=(inherit) b=a (set a=(inherit) b=(inherit)))")
	mustMean(t, `let "a b" = 1; in 2`, "(let a b=1 2)")
	mustMean(t, "{ a = { a = { a = 1; }; }; }", "(set a=(set a=(set a=1)))")
	wrongAt(t, "{ a ^1; }")
	wrongAt(t, "{ a ^; }")
	wrongAt(t, "{ a ^}")
	wrongAt(t, "{ a = ^}")
	wrongAt(t, "{ a = 1 ^}")
	wrongAt(t, "{ a = 1; ^; }")
	wrongAt(t, "{ ^; }")
	wrongAt(t, "{ ^1 = 2; }")
	wrongAt(t, "{ ^(a) = 2; }")
	wrongAt(t, "{ a ^b = 2; }")
	wrongAt(t, "{ a.^1 = 2; }")
	wrongAt(t, "{ a.^= 2; }")
	wrongAt(t, "{ a ^== 2; }")
	wrongAt(t, "{ inherit a^.b; }")
	wrongAt(t, "{ inherit a ^= 1; }")
	wrongAt(t, "{ inherit a ^}")
	wrongAt(t, "{ inherit ^(a) b; }")
	wrongAt(t, "{ inherit ^1; }")
	wrongAt(t, "{ a = b: ^; }")
	wrongAt(t, "{ a = 1; } ^}")
}

// TestP1Paths tells the sets that paths make, where they stand, and where they are At.
func TestP1Paths(t *testing.T) {
	mustMean(t, "{ a.b.c = 1; }", "(set a=(set b=(set c=1)))")
	mustMean(t, `{ a."b c".d = 1; "a"."b c".e = 2; }`, "(set a=(set b c=(set d=1 e=2)))")
	mustMean(t, "{ a.b = 1; c.b = 2; a.c = 3; c.a = 4; }", "(set a=(set b=1 c=3) c=(set b=2 a=4))")
	mustMean(t, "{ a.b.c = 1; a.d = 2; a.b.e = 3; }", "(set a=(set b=(set c=1 e=3) d=2))")
	mustMean(t, "{ a.a = 1; a.b.a = 2; a.c = 3; a.b.b = 4; }", "(set a=(set a=1 b=(set a=2 b=4) c=3))")
	mustMean(t, "let a.b = 1; a.c = 2; in a", "(let a=(set b=1 c=2) a)")
	mustMean(t, "rec { a.b = 1; a.c = 2; }", "(rec a=(set b=1 c=2))")
	mustMean(t, "rec { a.b.c = 1; }", "(rec a=(set b=(set c=1)))")
	mustMean(t, "{ a.b = { c = 1; }; a.d = rec { e = 2; }; }", "(set a=(set b=(set c=1) d=(rec e=2)))")
	mustMean(t, "{ a.b = 1; inherit c; a.d = 2; }", "(set a=(set b=1 d=2) c=(inherit))")
	mustMean(t, "{ a.b = { a.b = 1; }; a.c = { a.b = 2; }; }", "(set a=(set b=(set a=(set b=1)) c=(set a=(set b=2))))")
	mustBe(t, "{ a.b.c = 1; }", "int#1@10 set{c}(0)@2 set{b}(1)@2 set{a}(2)@0")
	mustBe(t, "{ a . b = 1; a.c.d = 2; a.c.e = 3; }", "int#1@10 int#2@21 int#3@32 set{d,e}(1,2)@13 set{b,c}(0,3)@2 set{a}(4)@0")
	mustBe(t, `let x = 1; "a".b = 2; in 3`, "int#1@8 int#2@19 set{b}(1)@11 int#3@25 let{x,a}(0,2,3)@0")
	mustBe(t, "rec { x = 1; a.b = x y; z.z = 4; a.c = [ 5 ]; }", "int#1@10 name:x@19 name:y@21 call(1,2)@19 int#5@41 list(4)@39 set{b,c}(3,5)@13 int#4@30 set{z}(7)@24 rec{x,a,z}(0,6,8)@0")
}

func TestP1Twice(t *testing.T) {
	for _, s := range []string{
		"{ a = 1; ^a = 2; }", "{ a = 1; b = 2; ^a = 3; }", `{ a = 1; ^"a" = 2; }`, `{ "" = 1; ^"" = 2; }`, "rec { a = 1; ^a = 2; }", "let a = 1; ^a = 2; in 3",
		"{ a = 1; ^a.b = 2; }", "{ a.b = 1; ^a = 2; }", "{ a.b = 1; ^a.b = 2; }", "{ a.b = 1; ^a.b.c = 2; }", "{ a.b.c = 1; ^a.b = 2; }", "{ a.b.c = 1; ^a = 2; }", "{ a.b.c = 1; ^a.b.c = 2; }", "{ a.b.c = 1; ^a.b.c.d = 2; }",
		"{ a = { b = 1; }; ^a.c = 2; }", "{ a.b = { c = 1; }; ^a.b.d = 2; }", "{ a.b = 1; c = 2; ^a.b = 3; }", "let a.b = 1; ^a.b = 2; in 3", `{ a . b = 1; ^"a" . "b" = 2; }`, "{ a = { }; ^a.b = 1; }", "{ a = rec { }; ^a.b.c = 1; }",
		"{ inherit a ^a; }", "{ inherit a; inherit ^a; }", "{ inherit a b c ^b; }", "{ inherit a; ^a = 1; }", "{ inherit a; ^a.b = 1; }", "{ a = 1; inherit ^a; }", "{ a.b = 1; inherit ^a; }", "{ a.b = 1; inherit b ^a; }", "let inherit a ^a; in 1", "rec { inherit a; ^a = 1; }",
		"{ x = { a = 1; ^a = 2; }; }", "{ a.b = { c.d = 1; ^c.d = 2; }; }",
	} {
		twiceAt(t, s)
	}
	for _, s := range []string{"{ a = { a = 1; }; }", "{ a.a.a = 1; }", "{ a.b = 1; b.a = 2; }", "{ a = 1; A = 2; }", "{ a.b = 1; a.c = { b = 1; }; b = 2; }", "{ inherit a; b = { inherit a; }; }", "let a = 1; in let a = 2; in { a = a; }", "[ { a = 1; } { a = 2; } ]", "{ a.b.c = 1; a.c.b = 2; a.b.b = 3; }"} {
		mustParse(t, s)
	}
}

// TestP1TwiceAndElse: a name that stands twice is told when its `=` was read, ahead of what is wrong behind that.
func TestP1TwiceAndElse(t *testing.T) {
	wrongAt(t, "{ a = 1; a ^2")
	wrongAt(t, "{ a = 1; a^")
	wrongAt(t, "{ a = 1; a.^= 2; }")
	wrongAt(t, "{ a = 1; a.b ^; }")
	twiceAt(t, "{ a = 1; ^a =")
	twiceAt(t, "{ a = 1; ^a = )")
	twiceAt(t, "{ a = 1; ^a.b = ; }")
	twiceAt(t, "{ a = 1; ^a = { b = 1; b = 2; }; }")
	twiceAt(t, "{ inherit a ^a")
	twiceAt(t, "{ inherit a ^a = 1; }")
	twiceAt(t, "{ inherit a ^a ) }")
	wrongAt(t, "{ a = ^; a = 1; }")
	wrongAt(t, "{ a = 1 a ^= 1; }")
	mustFail(t, "{ a = 1; a = @; }", 13, api.ErrByte)
	mustFail(t, "{ a = 1; a = 2; } @", 18, api.ErrByte)
	// Here the value would be too deep.
	mustFail(t, strings.Repeat("(", 31)+"{ a = (1); a = 2; }", 37, api.ErrDeep)
	mustFail(t, strings.Repeat("(", 30)+"{ a = 1; a = (((1))); }", 39, api.ErrTwice)
}

// TestP1LexFirst: what lex refuses is told ahead of all else.
func TestP1LexFirst(t *testing.T) {
	mustFail(t, "a @", 2, api.ErrByte)
	mustFail(t, ") 007", 2, api.ErrNumber)
	mustFail(t, "{ a = 1; a = 2; } \"", 18, api.ErrString)
	mustFail(t, strings.Repeat("(", 99)+"&", 99, api.ErrByte)
	mustFail(t, strings.Repeat("a ", 2000)+"1.0e999", 4000, api.ErrNumber)
	mustFail(t, strings.Repeat(")", 4097), 4096, api.ErrSource)
	mustFail(t, "a"+strings.Repeat(" ", 4096), 4096, api.ErrSource)
	mustBe(t, strings.Repeat(" ", 4095)+"a", "name:a@4095")
	mustBe(t, strings.Repeat("a", 4096), "name:"+strings.Repeat("a", 4096)+"@0")
	mustFail(t, strings.Repeat(" ", 4096), 4096, api.ErrShort)
}

// TestP1Memory alters all lists of an answer, spare room included: nothing else hangs on them.
func TestP1Memory(t *testing.T) {
	const text = "let a.b = [ 1 2 3 ]; a.c = { x = f 1 2; inherit y z; }; inherit q; in if a.b or c then rec { d.e = 1; d.f = 2; } else [ ]"
	want := tellAll(mustParse(t, text))
	f, g := mustParse(t, text), mustParse(t, text)
	for i := range f {
		kept := slices.Clone(f)
		names, kids := f[i].Names, f[i].Kids
		for k := range names[:cap(names)] {
			names[:cap(names)][k] = "!"
		}
		for k := range kids[:cap(kids)] {
			kids[:cap(kids)][k] = -1
		}
		f[i] = mustParse(t, text)[i]
		if got := tellAll(f); got != want {
			t.Fatalf("the lists of node %d (%s) are others' too: %s", i, tell(kept[i]), got)
		}
	}
	for i := range f[:cap(f)] {
		f[:cap(f)][i] = api.Node{}
	}
	if got := tellAll(g); got != want {
		t.Errorf("an answer hangs on another one: %s", got)
	}
}
