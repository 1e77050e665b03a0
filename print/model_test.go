package print_test

import (
	"math"
	"math/rand/v2"
	"reflect"
	"slices"
	"strconv"
	"strings"
	"testing"

	"bootjack/api"
	"bootjack/parse"
	"bootjack/print"
	"bootjack/value"
)

// The model of Print knows no rows: it leaves brackets out wherever the parser reads the same without them. The model of Right goes through the nodes from behind, by a table of the kinds.

type tree struct {
	node api.Node // without its Kids
	kids []*tree
}

func flat(x *tree, l []api.Node) []api.Node {
	n := x.node
	for _, k := range x.kids {
		l = flat(k, l)
		n.Kids = append(n.Kids, len(l)-1)
	}
	return append(l, n)
}

func reads(text string, x *tree) bool {
	f, err := parse.Parse(text)
	return err == nil && reflect.DeepEqual(placeless(f), placeless(flat(x, nil)))
}

// modelText gives the text of x. It is for what is far from being too deep.
func modelText(x *tree) string {
	texts := make([]string, len(x.kids))
	bracketed := make([]string, len(x.kids))
	for i, k := range x.kids {
		if k.node.Kind == api.NInherit {
			continue
		}
		texts[i] = modelText(k)
		bracketed[i] = "(" + texts[i] + ")"
	}
	chosen := slices.Clone(bracketed)
	for i := range x.kids {
		trial := slices.Clone(bracketed)
		trial[i] = texts[i]
		if reads(modelForm(x, trial), x) {
			chosen[i] = texts[i]
		}
	}
	return modelForm(x, chosen)
}

func modelQuoted(s string) string {
	return `"` + strings.NewReplacer("\n", `\n`, "\t", `\t`, `"`, `\"`, `\`, `\\`).Replace(s) + `"`
}

func modelAttribute(s string) string {
	x := &tree{node: api.Node{Kind: api.NSelect, Text: s}, kids: []*tree{{node: api.Node{Kind: api.NName, Text: "x"}}}}
	if reads("x."+s, x) && !strings.HasPrefix(s, `"`) && strings.TrimSpace(s) == s {
		return s
	}
	return modelQuoted(s)
}

func modelBindings(x *tree, texts []string) string {
	var b strings.Builder
	for i, name := range x.node.Names {
		if x.kids[i].node.Kind == api.NInherit {
			b.WriteString("inherit " + name + "; ")
			continue
		}
		b.WriteString(modelAttribute(name) + " = " + texts[i] + "; ")
	}
	return b.String()
}

// modelForm gives the text of x by its kids' texts.
func modelForm(x *tree, l []string) string {
	n := x.node
	switch n.Kind {
	case api.NInt:
		return strconv.FormatInt(n.Int, 10)
	case api.NFloat:
		return value.Float(n.Float)
	case api.NString:
		return modelQuoted(n.Text)
	case api.NName:
		return n.Text
	case api.NList:
		return strings.Join(append(append([]string{"["}, l...), "]"), " ")
	case api.NSet:
		return "{ " + modelBindings(x, l) + "}"
	case api.NRec:
		return "rec { " + modelBindings(x, l) + "}"
	case api.NLet:
		return "let " + modelBindings(x, l) + "in " + l[len(l)-1]
	case api.NSelect:
		if len(l) == 2 {
			return l[0] + "." + modelAttribute(n.Text) + " or " + l[1]
		}
		return l[0] + "." + modelAttribute(n.Text)
	case api.NHas:
		return l[0] + " ? " + modelAttribute(n.Text)
	case api.NCall:
		return l[0] + " " + l[1]
	case api.NLambda:
		return n.Text + ": " + l[0]
	case api.NWith:
		return "with " + l[0] + "; " + l[1]
	case api.NAssert:
		return "assert " + l[0] + "; " + l[1]
	case api.NIf:
		return "if " + l[0] + " then " + l[1] + " else " + l[2]
	case api.NNot:
		return "!" + l[0]
	case api.NNeg:
		return "-" + l[0]
	}
	return l[0] + " " + n.Text + " " + l[1]
}

func pick[T any](r *rand.Rand, l ...T) T { return l[r.IntN(len(l))] }

var someSigns = []string{"||", "&&", "==", "!=", "<", "<=", ">", ">=", "//", "+", "-", "*", "/", "++"}

// someTree gives one that is right, with nothing below it, if size is not above 0.
func someTree(r *rand.Rand, size int) *tree {
	x := &tree{}
	n := &x.node
	if size <= 0 {
		n.Kind = pick(r, api.NInt, api.NFloat, api.NString, api.NName, api.NName, api.NList, api.NSet)
	} else {
		n.Kind = pick(r, api.NBinary, api.NBinary, api.NBinary, 5+r.IntN(14))
	}
	kids := func(l int) {
		for range l {
			x.kids = append(x.kids, someTree(r, size-1-r.IntN(3)))
		}
	}
	switch n.Kind {
	case api.NInt:
		n.Int = pick(r, 0, 1, 42, math.MaxInt64, r.Int64())
	case api.NFloat:
		n.Float = pick(r, 0, 0.5, 1e21, 1e-7, math.MaxFloat64, math.SmallestNonzeroFloat64, r.ExpFloat64())
	case api.NString:
		n.Text = pick(r, "", "s", "let", "+)(", "a\n\"b\\\t", "\x80é#")
	case api.NName:
		n.Text = pick(r, "a", "b", "or'", "in-", "_")
	case api.NList:
		kids(min(max(size, 0), r.IntN(4)))
	case api.NSet, api.NRec, api.NLet:
		bind(r, x, size)
		if n.Kind == api.NLet {
			kids(1)
		}
	case api.NSelect:
		n.Text = pick(r, "a", "b-c", "or", "c d", "", "\"", "1", " a", "e5")
		kids(1 + r.IntN(2))
	case api.NHas:
		n.Text = pick(r, "a", "b", "let", "c d", "", "a.b", "a\n")
		kids(1)
	case api.NLambda:
		n.Text = pick(r, "a", "b", "c")
		kids(1)
	case api.NNot, api.NNeg:
		kids(1)
	case api.NIf:
		kids(3)
	case api.NBinary:
		n.Text = pick(r, someSigns...)
		kids(2)
	default:
		kids(2)
	}
	return x
}

func bind(r *rand.Rand, x *tree, size int) {
	names := []string{"a", "b", "c", "or", "d e", "", "(", "a#"}
	r.Shuffle(len(names), func(i, k int) { names[i], names[k] = names[k], names[i] })
	for _, name := range names[:min(max(size, 0), r.IntN(5))] {
		k := someTree(r, size-1-r.IntN(3))
		if len(name) == 1 && name != "(" && r.IntN(3) == 0 {
			k = &tree{node: api.Node{Kind: api.NInherit, Text: name}}
		}
		x.node.Names = append(x.node.Names, name)
		x.kids = append(x.kids, k)
	}
}

func TestQ2Model(t *testing.T) {
	r := rand.New(rand.NewPCG(13, 2))
	bare, inBrackets, long, none, most := 0, 0, 0, 0, 0
	for range 2500 {
		x := someTree(r, r.IntN(12))
		f := flat(x, nil)
		if len(f) > api.MaxNodes {
			continue
		}
		want := modelText(x)
		if len(want) > api.MaxSource {
			want = ""
			none++
		}
		mustPrint(t, f, want)
		if t.Failed() {
			t.Fatal(want)
		}
		switch {
		case strings.Contains(want, "("):
			inBrackets++
		case len(f) > 3:
			bare++
		}
		most = max(most, len(f))
		if len(want) > 1000 {
			long++
		}
	}
	if bare < 100 || inBrackets < 1000 || most < 100 || long < 5 {
		t.Errorf("%d bare, %d in brackets, %d long, %d too long, at most %d nodes", bare, inBrackets, long, none, most)
	}
}

// TestQ2Nested holds each kind at each place of each kind against the model, and these at each place again.
func TestQ2Nested(t *testing.T) {
	leaf := &tree{node: api.Node{Kind: api.NName, Text: "x"}}
	var makers []func(k *tree) *tree
	add := func(n api.Node, kids, at int) {
		makers = append(makers, func(k *tree) *tree {
			x := &tree{node: n, kids: slices.Repeat([]*tree{leaf}, kids)}
			x.kids[at] = k
			return x
		})
	}
	for _, s := range someSigns {
		add(api.Node{Kind: api.NBinary, Text: s}, 2, 0)
		add(api.Node{Kind: api.NBinary, Text: s}, 2, 1)
	}
	for kind := api.NList; kind < api.NBinary; kind++ {
		n := api.Node{Kind: kind}
		switch kids := len(sample(kind)) - 1; kind {
		case api.NSet, api.NRec, api.NLet:
			n.Names = []string{"a"}
			add(n, kids, 0)
			add(n, kids, kids-1)
		case api.NSelect:
			n.Text = "a"
			add(n, 1, 0)
			add(n, 2, 0)
			add(n, 2, 1)
		case api.NList:
			add(n, 2, 0)
		default:
			n.Text = sample(kind)[kids].Text
			for at := range kids {
				add(n, kids, at)
			}
		}
	}
	for _, one := range makers {
		for _, two := range makers {
			x := one(two(leaf))
			mustPrint(t, flat(x, nil), modelText(x))
			for _, three := range makers[len(makers)-12:] {
				x := one(two(three(leaf)))
				mustPrint(t, flat(x, nil), modelText(x))
			}
			if t.Failed() {
				t.FailNow()
			}
		}
	}
}

// modelKind says what a kind has: its text ("" none, else name, attribute or sign), whether it has names, and how many kids beside those that have names.
type modelKind struct {
	text        string
	names       bool
	least, most int
}

var modelKinds = map[int]modelKind{
	api.NInt: {}, api.NFloat: {}, api.NString: {text: "attribute"}, api.NName: {text: "name"}, api.NList: {most: 1000},
	api.NSet: {names: true}, api.NRec: {names: true}, api.NSelect: {"attribute", false, 1, 2}, api.NHas: {"attribute", false, 1, 1},
	api.NCall: {"", false, 2, 2}, api.NLambda: {"name", false, 1, 1}, api.NLet: {"", true, 1, 1}, api.NWith: {"", false, 2, 2},
	api.NIf: {"", false, 3, 3}, api.NAssert: {"", false, 2, 2}, api.NNot: {"", false, 1, 1}, api.NNeg: {"", false, 1, 1},
	api.NBinary: {"sign", false, 2, 2}, api.NInherit: {text: "name"},
}

func modelRight(f []api.Node) bool {
	if len(f) == 0 || len(f) > 1000 || f[len(f)-1].Kind == api.NInherit {
		return false
	}
	return modelFirst(f, len(f)-1) == 0
}

// modelFirst gives the first node of all that the node i is made of, or -1, if something is wrong in it.
func modelFirst(f []api.Node, i int) int {
	n := f[i]
	if !modelAlone(n) {
		return -1
	}
	first := i
	for j := len(n.Kids) - 1; j >= 0; j-- {
		k := n.Kids[j]
		if first == 0 || k != first-1 {
			return -1
		}
		if f[k].Kind == api.NInherit && (j >= len(n.Names) || n.Names[j] != f[k].Text) {
			return -1
		}
		if first = modelFirst(f, k); first < 0 {
			return -1
		}
	}
	return first
}

func modelAlone(n api.Node) bool {
	k, is := modelKinds[n.Kind]
	if !is || n.Int < 0 || n.Int > 0 && n.Kind != api.NInt {
		return false
	}
	if !(n.Float >= 0 && n.Float <= math.MaxFloat64) || math.Signbit(n.Float) || n.Float > 0 && n.Kind != api.NFloat {
		return false
	}
	if !modelTextFits(n.Text, k.text) || !k.names && len(n.Names) > 0 {
		return false
	}
	seen := map[string]bool{}
	for _, name := range n.Names {
		if seen[name] || !modelTextFits(name, "attribute") {
			return false
		}
		seen[name] = true
	}
	more := len(n.Kids) - len(n.Names)
	return k.least <= more && more <= k.most
}

func modelTextFits(s, what string) bool {
	switch what {
	case "":
		return s == ""
	case "sign":
		return slices.Contains(someSigns, s)
	case "attribute":
		for _, c := range []byte(s) {
			if c <= 31 && c != 9 && c != 10 || c == 127 {
				return false
			}
		}
		return len(s) <= 1024
	}
	const letters = "abcdefghijklmnopqrstuvwxyzABCDEFGHIJKLMNOPQRSTUVWXYZ_"
	if s == "" || len(s) > 4096 || !strings.Contains(letters, s[:1]) || strings.Trim(s, letters+"0123456789'-") != "" {
		return false
	}
	for _, c := range []byte(s) {
		if !strings.ContainsRune(letters+"0123456789'-", rune(c)) {
			return false
		}
	}
	return !strings.Contains(" let in rec with if then else inherit assert or ", " "+s+" ")
}

// altered gives nodes of which something is other than it was, by chance.
func altered(r *rand.Rand, f []api.Node) []api.Node {
	f = moved(f, 0)
	for i := range f {
		f[i].Names = slices.Clone(f[i].Names)
	}
	i := r.IntN(len(f))
	n := &f[i]
	texts := []string{"", "a", "b", "let", "or", "a b", " a", "\x00", "\x7f", "\n", "+", "++", "%", "(a)", "a'", "é", strings.Repeat("a", 1024), strings.Repeat("a", 1025)}
	switch r.IntN(12) {
	case 0:
		n.Kind = r.IntN(22) - 1
	case 1, 2:
		n.Text = pick(r, texts...)
	case 3:
		n.Int = pick[int64](r, 0, 1, -1, math.MinInt64, math.MaxInt64)
	case 4:
		n.Float = pick(r, 0, 1, -1, math.Copysign(0, -1), math.NaN(), math.Inf(1), math.Inf(-1))
	case 5:
		if len(n.Names) > 0 {
			n.Names[r.IntN(len(n.Names))] = pick(r, texts...)
		} else {
			n.Names = []string{"a"}
		}
	case 6:
		if len(n.Names) > 0 {
			n.Names = n.Names[1:]
		}
	case 7:
		if len(n.Kids) > 0 {
			n.Kids[r.IntN(len(n.Kids))] += pick(r, -1, 1, 2, -2, 1000)
		} else {
			n.Kids = []int{r.IntN(len(f))}
		}
	case 8:
		if len(n.Kids) > 1 {
			n.Kids[0], n.Kids[1] = n.Kids[1], n.Kids[0]
		} else if len(n.Kids) > 0 {
			n.Kids = nil
		}
	case 9:
		*n = api.Node{Kind: api.NInherit, Text: pick(r, "a", "b", "c")}
	case 10:
		f = slices.Delete(f, i, i+1)
	case 11:
		k := r.IntN(len(f))
		f[i], f[k] = f[k], f[i]
	}
	return f
}

func TestQ1Model(t *testing.T) {
	r := rand.New(rand.NewPCG(13, 1))
	right, wrong := map[int]int{}, map[int]int{}
	for range 60000 {
		f := flat(someTree(r, r.IntN(5)), nil)
		if len(f) < 1000 && !print.Right(f) {
			t.Fatalf("Right of %+v is false", f)
		}
		kind := f[len(f)-1].Kind
		for range 1 + r.IntN(2) {
			if len(f) > 0 {
				f = altered(r, f)
			}
		}
		want := modelRight(f)
		if print.Right(f) != want {
			t.Fatalf("Right of %+v: %v", f, !want)
		}
		if want {
			right[kind]++
		} else {
			wrong[kind]++
		}
	}
	for kind := api.NInt; kind < api.NInherit; kind++ {
		if right[kind] < 50 || wrong[kind] < 200 {
			t.Errorf("kind %d: %d right, %d wrong", kind, right[kind], wrong[kind])
		}
	}
}

// FuzzQ2 takes what is read, and prints it: Print's text is read as the same, and printed as it is.
func FuzzQ2(f *testing.F) {
	for _, s := range []string{"a", "-(-a).b", "{ a.b = 1; inherit c; }", "let in [ (a b) c ]", "(a.b or c).d ? \"x y\"", "!(a == b) // c: 1.5e300", "with a; assert b; if c then \"\\n\" else rec { }"} {
		f.Add(s)
	}
	f.Fuzz(func(t *testing.T, s string) {
		l, err := parse.Parse(s)
		if err != nil {
			return
		}
		if print.Right(l) != modelRight(l) {
			t.Fatalf("%q: Right is %v", s, !modelRight(l))
		}
		p := print.Print(l)
		if p == "" {
			return
		}
		again, err := parse.Parse(p)
		if err != nil || !reflect.DeepEqual(placeless(l), placeless(again)) {
			t.Fatalf("%q is printed as %q: %v", s, p, err)
		}
		if print.Print(again) != p {
			t.Fatalf("%q is printed as %q", p, print.Print(again))
		}
	})
}

// FuzzQ1 makes nodes of bytes.
func FuzzQ1(f *testing.F) {
	f.Add([]byte{1, 0, 0, 5, 0, 0x11})
	f.Add([]byte{4, 1, 0, 4, 1, 0, 10, 0, 0x21, 9, 1, 0x11})
	f.Fuzz(func(t *testing.T, b []byte) {
		var l []api.Node
		for ; len(b) >= 3; b = b[3:] {
			n := api.Node{Kind: int(b[0]) % 21, Text: []string{"", "a", "b", "+", "let", "a b", "\x00"}[b[1]%7]}
			n.Int, n.Float = int64(b[1]>>7), float64(b[1]>>6&1)
			for k := range int(b[2] & 3) {
				n.Kids = append(n.Kids, len(l)-int(b[2]>>4)+k)
			}
			n.Names = []string{"a", "b", "a"}[:b[2]>>2&3]
			l = append(l, n)
		}
		if print.Right(l) != modelRight(l) {
			t.Fatalf("Right of %+v: %v", l, !modelRight(l))
		}
		if p := print.Print(l); p != "" && !print.Right(l) {
			t.Fatalf("%+v is printed as %q", l, p)
		}
	})
}
