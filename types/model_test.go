package types_test

import (
	"fmt"
	"math/rand/v2"
	"regexp"
	"slices"
	"strconv"
	"strings"
	"testing"

	"bootjack/api"
	"bootjack/types"
	"bootjack/value"
)

// The model knows types as one pattern, goes through values level by level, and
// merges what stands under a name as definitions of their own, as the chapter
// says it.

var pattern = regexp.MustCompile(`^(?:(?:list|attrs) )*(?:bool|float|string|lines|unit|int|int (0|[1-9][0-9]{0,8}) (0|[1-9][0-9]{0,8})|enum((?: [a-z0-9-]+)+))$`)

func modelRight(t string) bool {
	m := pattern.FindStringSubmatch(t)
	if m == nil || strings.Contains(t, "\n") || len(t) > 64 || strings.Count(t, " ") > 7 {
		return false
	}
	low, _ := strconv.Atoi(m[1])
	high, _ := strconv.Atoi(m[2])
	words := strings.Fields(m[3])
	slices.Sort(words)
	return low <= high && len(slices.Compact(words)) == len(strings.Fields(m[3]))
}

func modelOf(t string, v api.Value) bool {
	if !modelRight(t) || !value.Right(v) {
		return false
	}
	level := []api.Value{v}
	words := strings.Split(t, " ")
	for len(words) > 1 && (words[0] == "list" || words[0] == "attrs") {
		kind := map[string]int{"list": api.VList, "attrs": api.VSet}[words[0]]
		var next []api.Value
		for _, v := range level {
			if v.Kind != kind {
				return false
			}
			next = append(next, v.Items...)
		}
		level, words = next, words[1:]
	}
	return !slices.ContainsFunc(level, func(v api.Value) bool { return !modelOfLast(words, v) })
}

// modelOfLast is of a type that has no other one in it.
func modelOfLast(words []string, v api.Value) bool {
	switch words[0] {
	case "unit":
		ok := v.Kind == api.VSet
		for i, n := range v.Names {
			t := map[string]string{"start": "string", "after": "list string", "requires": "list string"}[n]
			ok = ok && modelOf(t, v.Items[i])
		}
		return ok
	case "enum":
		return v.Kind == api.VString && slices.Contains(words[1:], v.Text)
	case "int":
		if len(words) == 1 || v.Kind != api.VInt {
			return v.Kind == api.VInt
		}
		low, _ := strconv.ParseInt(words[1], 10, 64)
		high, _ := strconv.ParseInt(words[2], 10, 64)
		return v.Int == min(max(v.Int, low), high)
	}
	kinds := map[string][]int{"bool": {api.VBool}, "float": {api.VInt, api.VFloat}, "string": {api.VString}, "lines": {api.VString}}
	return slices.Contains(kinds[words[0]], v.Kind)
}

func modelMerge(t string, l []api.Def) (api.Value, api.Errno) {
	if !modelRight(t) || slices.ContainsFunc(l, func(d api.Def) bool { return !value.Right(d.Value) }) {
		return null, api.ErrArg
	}
	if len(l) == 0 {
		return null, api.ErrUnset
	}
	vs := modelCounting(l)
	for _, v := range vs {
		if !modelOf(t, v) {
			return null, api.ErrType
		}
	}
	word, rest, _ := strings.Cut(t, " ")
	switch word {
	case "lines":
		s := vs[0].Text
		for _, v := range vs[1:] {
			s += "\n" + v.Text
		}
		return modelLong(text(s), len(s), api.MaxString)
	case "list":
		all := list()
		for _, v := range vs {
			all.Items = append(all.Items, v.Items...)
		}
		return modelLong(all, len(all.Items), api.MaxList)
	case "attrs":
		return modelMergeSets(rest, vs)
	case "unit":
		return modelMergeUnits(vs)
	}
	for _, v := range vs {
		if is, _ := value.Equal(v, vs[0]); !is && len(vs) > 1 {
			return null, api.ErrConflict
		}
	}
	if word == "float" && vs[0].Kind == api.VInt {
		return real(float64(vs[0].Int)), api.OK
	}
	return vs[0], api.OK
}

func modelLong(v api.Value, n, most int) (api.Value, api.Errno) {
	if n > most {
		return null, api.ErrLong
	}
	return v, api.OK
}

// modelCounting takes out, again and again, the first of those of the least order.
func modelCounting(l []api.Def) []api.Value {
	least := l[0].Priority
	for _, d := range l {
		least = min(least, d.Priority)
	}
	left := slices.DeleteFunc(slices.Clone(l), func(d api.Def) bool { return d.Priority != least })
	var vs []api.Value
	for len(left) > 0 {
		at := 0
		for i, d := range left {
			if d.Order < left[at].Order {
				at = i
			}
		}
		vs = append(vs, left[at].Value)
		left = slices.Delete(left, at, at+1)
	}
	return vs
}

func modelUnder(name string, sets []api.Value) []api.Def {
	var l []api.Def
	for _, s := range sets {
		for i, n := range s.Names {
			if n == name {
				l = append(l, api.Def{Value: s.Items[i]})
			}
		}
	}
	return l
}

func modelMergeSets(t string, sets []api.Value) (api.Value, api.Errno) {
	all := api.Value{Kind: api.VSet}
	for _, s := range sets {
		all.Names = append(all.Names, s.Names...)
	}
	slices.Sort(all.Names)
	all.Names = slices.Compact(all.Names)
	if len(all.Names) > api.MaxList {
		return null, api.ErrLong
	}
	for _, name := range all.Names {
		v, e := modelMerge(t, modelUnder(name, sets))
		if e != api.OK {
			return null, e
		}
		all.Items = append(all.Items, v)
	}
	return all, api.OK
}

func modelMergeUnits(units []api.Value) (api.Value, api.Errno) {
	lists := map[string]api.Value{}
	for _, name := range []string{"after", "requires"} {
		l := list()
		for _, d := range modelUnder(name, units) {
			for _, s := range d.Value.Items {
				if !slices.ContainsFunc(l.Items, func(v api.Value) bool { return v.Text == s.Text }) {
					l.Items = append(l.Items, s)
				}
			}
		}
		if len(l.Items) > api.MaxList {
			return null, api.ErrLong
		}
		lists[name] = l
	}
	start, e := modelMerge("string", modelUnder("start", units))
	if e == api.ErrUnset {
		start, e = text(""), api.OK
	}
	if e != api.OK {
		return null, e
	}
	return set("after", lists["after"], "requires", lists["requires"], "start", start), api.OK
}

type chooser struct {
	*rand.Rand
	some, wrong []api.Value
}

func choose(seed uint64) chooser {
	return chooser{rand.New(rand.NewPCG(14, seed)), someValues(), wrongValues()}
}

func (r chooser) of(l ...string) string { return l[r.IntN(len(l))] }

// one tells true once in so many times.
func (r chooser) one(n int) bool { return r.IntN(n) == 0 }

func (r chooser) typeText() string {
	s := ""
	for r.one(2) {
		s += r.of("list ", "attrs ", "attrs ")
	}
	switch s += r.of("bool", "float", "string", "lines", "unit", "int", "int", "enum"); {
	case strings.HasSuffix(s, "int") && r.one(2):
		a, b := r.number(), r.number()
		if len(a) > len(b) && !r.one(8) {
			a, b = b, a
		}
		s += " " + a + " " + b
	case strings.HasSuffix(s, "enum"):
		for ok := true; ok; ok = !r.one(3) {
			s += " " + r.of("a", "b", "ab", "c", "d", "e-1", "-", "0", "int", "list", "zzzzzzzzzzzzzzzz")
		}
	}
	return s
}

func (r chooser) number() string {
	return strconv.Itoa(int(r.Uint32N(1000000000) >> r.IntN(31)))
}

// bentType changes some bytes of a type.
func (r chooser) bentType() string {
	b := []byte(r.typeText())
	for ok := true; ok && len(b) > 0; ok = r.one(3) {
		at := r.IntN(len(b))
		switch r.IntN(3) {
		case 0:
			b = slices.Delete(b, at, at+1)
		case 1:
			b = slices.Insert(b, at, r.of(" ", "a", "0", "1", "-", "\n", "A")[0])
		default:
			b[at] = r.of(" ", "a", "0", "9", "-", "\t", "_")[0]
		}
	}
	return string(b)
}

// value is one of the type that the words tell, but for a few.
func (r chooser) value(words []string) api.Value {
	if r.one(60) || len(words) == 0 {
		return r.anything()
	}
	switch words[0] {
	case "bool":
		return truth(r.Int64N(2))
	case "float":
		if r.one(2) {
			return whole(r.number64())
		}
		return real([]float64{0, noughts, 1, nan, inf, even, 1.5, 1, 1}[r.IntN(9)])
	case "int":
		if len(words) == 3 && !r.one(10) {
			n, _ := strconv.ParseInt(words[1+r.IntN(2)], 10, 64)
			return whole(n + int64(r.IntN(40)/39) - int64(r.IntN(40)/39))
		}
		return whole(r.number64())
	case "string":
		return text(r.of("a", "a", "a", "a", "", "b"))
	case "enum":
		if len(words) == 1 {
			return text("a")
		}
		return text(words[1+r.IntN(len(words)-1)*r.IntN(5)/4])
	case "lines":
		if r.one(8) {
			return times("a", 1024-r.IntN(1024)*r.IntN(2))
		}
		return text(r.of("a", "b\n", "", "\nc"))
	case "list":
		return r.list(words[1:])
	case "attrs":
		return r.set(words[1:])
	}
	return r.unit()
}

func (r chooser) number64() int64 {
	return []int64{0, 1, 1, 1, 1, 1, -1, even, even + 1, lowest, highest, 5}[r.IntN(12)]
}

func (r chooser) anything() api.Value {
	l := r.some
	if r.one(6) {
		l = r.wrong
	}
	return l[r.IntN(len(l))]
}

// isLast tells whether wide lists may be made of what the words tell, which
// would be too wide, if it were made of such ones itself.
func isLast(words []string) bool {
	return len(words) > 0 && words[0] != "list" && words[0] != "attrs"
}

func (r chooser) list(words []string) api.Value {
	l := list()
	if isLast(words) && r.one(10) {
		return copies(r.value(words), 80+r.IntN(177))
	}
	for range r.IntN(4) {
		l.Items = append(l.Items, r.value(words))
	}
	return l
}

func (r chooser) set(words []string) api.Value {
	if isLast(words) && r.one(10) {
		return many(r.IntN(150), 40+r.IntN(217), r.value(words))
	}
	var parts []any
	for _, name := range []string{"", "A", "a", "b", "ba"} {
		if r.one(2) {
			parts = append(parts, name, r.value(words))
		}
	}
	return set(parts...)
}

func (r chooser) unit() api.Value {
	var parts []any
	for _, name := range []string{"after", "requires"} {
		switch r.IntN(12) {
		case 0:
			parts = append(parts, name, texts(r.IntN(150), r.IntN(257)))
		case 1, 2, 3, 4, 5:
			parts = append(parts, name, list(text(r.of("x", "y")), text(r.of("x", "y", "z"))))
		}
	}
	if r.one(2) {
		parts = append(parts, "start", text(r.of("s", "s", "s", "s", "s", "")))
	}
	if r.one(80) {
		parts = append(parts, "stop", text(""))
	}
	return set(parts...)
}

func (r chooser) defs(t string) []api.Def {
	var l []api.Def
	words := strings.Split(t, " ")
	for range r.IntN(6) {
		l = append(l, def(r.value(words), []int64{100, 100, 100, 50, 1000, lowest, highest}[r.IntN(7)], []int64{1000, 1000, 500, -1, lowest, highest}[r.IntN(6)]))
	}
	if r.one(2) {
		for i := range l {
			l[i].Priority = 7
		}
	}
	return l
}

func TestModelTypes(t *testing.T) {
	r := choose(1)
	told := [2]int{}
	for range 60000 {
		s := r.typeText()
		if r.one(2) {
			s = r.bentType()
		}
		is := modelRight(s)
		if types.Right(s) != is {
			t.Fatalf("Right(%q) is %v", s, !is)
		}
		told[map[bool]int{true: 1}[is]]++
		v := r.value(strings.Split(s, " "))
		if types.Of(s, v) != modelOf(s, v) {
			t.Fatalf("Of(%q, %.200s) is %v", s, value.Show(v), !modelOf(s, v))
		}
	}
	if min(told[0], told[1]) < 9000 {
		t.Errorf("right and wrong types: %d", told)
	}
}

func TestModelMerge(t *testing.T) {
	r := choose(2)
	told := map[string]int{}
	for range 30000 {
		s := r.typeText()
		l := r.defs(s)
		want, wantErr := modelMerge(s, l)
		v, e := types.Merge(s, l)
		if e != wantErr || !value.Same(v, want) {
			t.Fatalf("Merge(%q, %.500s) = %.300s, %d; want %.300s, %d", s, showDefs(l), value.Show(v), e, value.Show(want), wantErr)
		}
		if e == api.OK && !(value.Right(v) && types.Of(s, v)) {
			t.Fatalf("Merge(%q, %.500s) = %.300s is not of the type", s, showDefs(l), value.Show(v))
		}
		word, _, _ := strings.Cut(s, " ")
		told[fmt.Sprint(word, int(e))]++
	}
	for word, errs := range map[string][]api.Errno{
		"bool": {api.ErrConflict}, "int": {api.ErrConflict}, "float": {api.ErrConflict}, "string": {api.ErrConflict}, "enum": {api.ErrConflict},
		"lines": {api.ErrLong}, "list": {api.ErrLong}, "attrs": {api.ErrLong, api.ErrConflict}, "unit": {api.ErrLong, api.ErrConflict},
	} {
		for _, e := range append(errs, api.OK, api.ErrArg, api.ErrUnset, api.ErrType) {
			if told[fmt.Sprint(word, int(e))] < 5 {
				t.Errorf("%s: the error %d was met %d times", word, e, told[fmt.Sprint(word, int(e))])
			}
		}
	}
}
