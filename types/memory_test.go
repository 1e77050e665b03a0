package types_test

import (
	"slices"
	"testing"

	"bootjack/api"
	"bootjack/types"
	"bootjack/value"
)

func cloneValue(v api.Value) api.Value {
	v.Names, v.Items = slices.Clone(v.Names), slices.Clone(v.Items)
	for i := range v.Items {
		v.Items[i] = cloneValue(v.Items[i])
	}
	return v
}

func cloneDefs(l []api.Def) []api.Def {
	l = slices.Clone(l)
	for i := range l {
		l[i].Value = cloneValue(l[i].Value)
	}
	return l
}

func sameDefs(a, b []api.Def) bool {
	return slices.EqualFunc(a, b, func(a, b api.Def) bool {
		return a.Priority == b.Priority && a.Order == b.Order && value.Same(a.Value, b.Value)
	})
}

// roomy is a value whose lists, the empty ones too, have room to spare.
func roomy(v api.Value) api.Value {
	v.Names, v.Items = append(make([]string, 0, 300), v.Names...), append(make([]api.Value, 0, 300), v.Items...)
	for i := range v.Items {
		v.Items[i] = roomy(v.Items[i])
	}
	return v
}

// spoil writes over all that a value's own lists have room for.
func spoil(v api.Value) {
	for i := range v.Names[:cap(v.Names)] {
		v.Names[:cap(v.Names)][i] = "spoilt"
	}
	for i := range v.Items[:cap(v.Items)] {
		v.Items[:cap(v.Items)][i] = text("spoilt")
	}
}

// isSpoilt tells whether that is to be seen anywhere within a value.
func isSpoilt(v api.Value) bool {
	return v.Text == "spoilt" || slices.Contains(v.Names[:cap(v.Names)], "spoilt") || slices.ContainsFunc(v.Items[:cap(v.Items)], isSpoilt)
}

func memoryCases() map[string][]api.Def {
	x, y := text("x"), text("y")
	return map[string][]api.Def{
		"bool": defs(truth(1)), "int": defs(whole(1), whole(1)), "float": defs(real(1), whole(1)), "int 0 9": defs(whole(9)), "string": defs(x), "enum x": defs(x, x), "lines": defs(x),
		"list string": defs(list(x)), "list int": defs(list(), list(whole(1)), list()), "list list string": defs(list(list(x), list()), list(list(y))), "list float": defs(list()),
		"attrs string": defs(set("a", x)), "attrs int": defs(set("a", whole(1)), set("b", whole(2))), "attrs list string": defs(set("a", list(x)), set("a", list(y), "b", list())), "attrs bool": defs(set()),
		"unit": defs(set("after", list(x), "start", y), set("requires", list(x, y))), "attrs unit": defs(set("a", set())), "attrs attrs lines": defs(set("a", set("b", x))), "attrs lines": {def(set("a", x), 2, 1), def(set("a", x), 1, 2), def(set("a", y), 1, 1)},
	}
}

func TestR3ArgumentsStay(t *testing.T) {
	for s, l := range memoryCases() {
		for i := range l {
			l[i].Value = roomy(l[i].Value)
		}
		kept := cloneDefs(l)
		v, e := types.Merge(s, l)
		if e != api.OK {
			t.Errorf("%s: %d", s, e)
		}
		for i := range l {
			types.Of(s, l[i].Value)
		}
		if !sameDefs(l, kept) {
			t.Errorf("%s: the definitions have changed", s)
		}
		want := cloneValue(v)
		spoil(v)
		for _, d := range l {
			if isSpoilt(d.Value) {
				t.Errorf("%s: the answer shares memory with an argument", s)
			}
		}
		again, _ := types.Merge(s, l)
		if !value.Same(again, want) {
			t.Errorf("%s: told anew it is %s", s, value.Show(again))
		}
		third, _ := types.Merge(s, l)
		spoil(again)
		if isSpoilt(third) {
			t.Errorf("%s: two answers share memory", s)
		}
		for _, d := range l {
			spoil(d.Value)
		}
		if isSpoilt(third) {
			t.Errorf("%s: the answer has changed with an argument", s)
		}
	}
}

func TestR4NothingByChance(t *testing.T) {
	l := defs(many(50, 100, list(text("a"))), many(0, 200, list(text("b"))), many(100, 156, list()))
	want, e := types.Merge("attrs list string", l)
	if e != api.OK || len(want.Names) != 256 {
		t.Fatal(e)
	}
	for range 50 {
		if v, _ := types.Merge("attrs list string", l); !value.Same(v, want) {
			t.Fatal("another answer")
		}
	}
}
