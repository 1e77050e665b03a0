package units_test

import (
	"slices"
	"testing"

	"bootjack/api"
	"bootjack/units"
)

func roomyNames(l []string) []string { return append(make([]string, 0, 50), l...) }

// roomy is units whose lists, the empty ones too, have room to spare.
func roomy(l []api.Unit) []api.Unit {
	out := append(make([]api.Unit, 0, 50), l...)
	for i := range out {
		out[i].Requires, out[i].After = roomyNames(out[i].Requires), roomyNames(out[i].After)
	}
	return out
}

func spoilNames(l []string) {
	l = l[:cap(l)]
	for i := range l {
		l[i] = "spoilt"
	}
}

// spoil writes over all that units' lists have room for.
func spoil(l []api.Unit) {
	for i := range l {
		spoilNames(l[i].Requires)
		spoilNames(l[i].After)
	}
	l = l[:cap(l)]
	for i := range l {
		l[i] = api.Unit{Name: "spoilt"}
	}
}

// isSpoilt tells whether that is to be seen anywhere.
func isSpoilt(l []api.Unit) bool {
	return slices.ContainsFunc(l[:cap(l)], func(u api.Unit) bool {
		return u.Name == "spoilt" || slices.Contains(u.Requires[:cap(u.Requires)], "spoilt") || slices.Contains(u.After[:cap(u.After)], "spoilt")
	})
}

func TestR3Order(t *testing.T) {
	plain := list("c:b:a", "b", "a:b", "d")
	l := roomy(plain)
	got, _, _ := units.Order(l)
	again, _, _ := units.Order(l)
	if !sameUnits(l, plain) || isSpoilt(l) {
		t.Errorf("Order has changed what it was handed: %v", l)
	}
	want := list("b", "a:b", "c:b:a", "d")
	spoil(l)
	if !sameUnits(got, want) || isSpoilt(got) {
		t.Errorf("Order shares what it was handed: %v", got)
	}
	l = roomy(plain)
	spoil(got)
	if !sameUnits(again, want) || isSpoilt(again) {
		t.Errorf("two answers of Order share memory: %v", again)
	}
	third, _, _ := units.Order(l)
	spoil(third)
	if !sameUnits(l, plain) || isSpoilt(l) {
		t.Errorf("what Order answers leads to what it was handed: %v", l)
	}
	// nor do two lists of one answer
	for i := range again {
		spoilNames(again[i].After)
	}
	if slices.ContainsFunc(again, func(u api.Unit) bool { return slices.Contains(u.Requires[:cap(u.Requires)], "spoilt") }) {
		t.Errorf("two lists of an answer share memory: %v", again)
	}
}

// What is refused has changed nothing.
func TestR2OrderRefused(t *testing.T) {
	for _, plain := range [][]api.Unit{list("c", "b", "a", "c"), list("c", "b:x", "a"), list("c", "b::a", "a::b"), numbered(25)} {
		slices.Reverse(plain)
		l := roomy(plain)
		if _, _, e := units.Order(l); e == api.OK || !sameUnits(l, plain) {
			t.Errorf("Order: %d, %v", e, l)
		}
	}
}

func TestR3Diff(t *testing.T) {
	plainOld, plainFresh := list("c:b", "b", "a:b", "d", "e"), list("e", "f", "b", "c:b", "a")
	old, fresh := roomy(plainOld), roomy(plainFresh)
	stop, stay, start := units.Diff(old, fresh)
	if !sameUnits(old, plainOld) || !sameUnits(fresh, plainFresh) || isSpoilt(old) || isSpoilt(fresh) {
		t.Errorf("Diff has changed what it was handed: %v, %v", old, fresh)
	}
	spoil(old)
	spoil(fresh)
	spoilNames(stop)
	if !slices.Equal(stay, []string{"e", "b", "c"}) || !slices.Equal(start, []string{"f", "a"}) {
		t.Errorf("Diff: %v, %v", stay, start)
	}
	spoilNames(stay)
	if !slices.Equal(start, []string{"f", "a"}) {
		t.Errorf("Diff: %v", start)
	}
}

func TestR3TextAndParse(t *testing.T) {
	plain := list("a:b c:d e", "b::a")
	l := roomy(plain)
	text := units.Text(l)
	if !sameUnits(l, plain) || isSpoilt(l) {
		t.Errorf("Text has changed what it was handed: %v", l)
	}
	got, _ := units.Parse(text)
	again, _ := units.Parse(text)
	spoilNames(got[0].Requires)
	if !slices.Equal(got[0].After, []string{"d", "e"}) || !sameUnit(got[1], plain[1]) {
		t.Errorf("lists of an answer of Parse share memory: %v", got)
	}
	spoil(got)
	if !sameUnits(again, plain) || isSpoilt(again) {
		t.Errorf("two answers of Parse share memory: %v", again)
	}
}

func TestR3Faults(t *testing.T) {
	_, err := units.Parse("x\n")
	err.(*api.Fault).At = 9
	if _, err := units.Parse("x\n"); err.(*api.Fault).At != 0 {
		t.Errorf("two answers of Parse share a fault: %v", err)
	}
}
