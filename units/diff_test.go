package units_test

import (
	"fmt"
	"slices"
	"strings"
	"testing"

	"bootjack/api"
	"bootjack/units"
)

func diffText(old, fresh []api.Unit) string {
	stop, stay, start := units.Diff(old, fresh)
	return strings.Join(stop, " ") + "|" + strings.Join(stay, " ") + "|" + strings.Join(start, " ")
}

func TestS2Diff(t *testing.T) {
	other := api.Unit{Name: "a", Start: "other"}
	for _, c := range []struct {
		old, fresh []api.Unit
		want       string
	}{
		{nil, nil, "||"},
		{list("a", "b"), nil, "b a||"},
		{nil, list("b", "a"), "||b a"},
		{list("a", "b"), list("a", "b"), "|a b|"},
		{list("a", "b"), list("b", "a"), "|b a|"},
		{list("a", "b:a", "c"), append([]api.Unit{other}, list("b:a", "c", "d")...), "b a|c|a b d"},
		{list("c", "b", "a"), list("d", "b", "e"), "a c|b|d e"},
		// what differs in one field
		{list("a"), []api.Unit{other}, "a||a"},
		{list("a:x"), list("a:y"), "a||a"},
		{list("a:x y"), list("a:y x"), "a||a"},
		{list("a:x"), list("a:x x"), "a||a"},
		{list("a::x"), list("a::y"), "a||a"},
		{list("a::x"), list("a:x"), "a||a"},
		{list("a::x"), list("a::x"), "|a|"},
		{list("A"), list("a"), "A||a"},
		// what it stands behind does not count, but what it requires
		{list("a", "b::a"), append([]api.Unit{other}, list("b::a")...), "a|b|a"},
		{list("b:x"), list("b:x"), "|b|"},
		{list("b:x", "x"), list("b:x"), "x b||b"},
		{list("b:x"), list("b:x", "x"), "b||b x"},
		{list("b:x y", "x"), list("b:x y", "x"), "|b x|"},
		{list("b:x y", "y"), list("b:x y"), "y b||b"},
		// one behind the other, and rings
		{list("a", "b:a", "c:b", "d:c", "e"), append([]api.Unit{other}, list("b:a", "c:b", "d:c", "e")...), "d c b a|e|a b c d"},
		{list("a:b", "b:a"), list("a:b", "b:a"), "|a b|"},
		{list("a:a"), list("a:a"), "|a|"},
		{list("a:b", "b:c", "c:a d", "d"), list("a:b", "b:c", "c:a d"), "d c b a||a b c"},
		{list("a:b", "b:a c"), list("a:b", "b:a c"), "|a b|"},
		// of two units with one name the first one counts
		{[]api.Unit{unit("a", "", ""), other}, list("a"), "|a|"},
		{[]api.Unit{other, unit("a", "", "")}, list("a"), "a||a"},
		{list("a"), []api.Unit{unit("a", "", ""), other}, "|a|"},
		{list("a"), []api.Unit{other, unit("a", "", "")}, "a||a"},
		{list("a", "b", "a", "c"), list("c", "d", "d", "c"), "b a|c|d"},
		{list("a", "b", "a"), nil, "b a||"},
		{list("a:x", "a:y", "x"), list("a:x", "a:y"), "x a||a"},
		{list("a:x", "a:y", "y"), list("a:x", "a:y"), "y|a|"},
	} {
		if got := diffText(c.old, c.fresh); got != c.want {
			t.Errorf("Diff of %v and %v: %s; want %s", c.old, c.fresh, got, c.want)
		}
	}
}

// The empty name is one, too; and there may be more than MaxUnits.
func TestS2AnyLists(t *testing.T) {
	stop, stay, start := units.Diff(make([]api.Unit, 3), make([]api.Unit, 2))
	if len(stop) != 0 || !slices.Equal(stay, []string{""}) || len(start) != 0 {
		t.Errorf("Diff of the empty name: %q, %q, %q", stop, stay, start)
	}
	stop, stay, start = units.Diff([]api.Unit{{Name: "a\n", Requires: []string{""}}, {}}, []api.Unit{{Name: "a\n", Requires: []string{""}}})
	if !slices.Equal(stop, []string{"", "a\n"}) || len(stay) != 0 || !slices.Equal(start, []string{"a\n"}) {
		t.Errorf("Diff of odd names: %q, %q, %q", stop, stay, start)
	}
	l := numbered(60)
	if stop, stay, start = units.Diff(l, l); len(stop)+len(start) != 0 || strings.Join(stay, " ") != namesOf(l) {
		t.Errorf("Diff of 60 units with themselves: %q, %q, %q", stop, stay, start)
	}
}

// A chain that falls from its far end must not be gone through once a unit.
func TestS2LongChains(t *testing.T) {
	const n = 200000
	old := make([]api.Unit, n)
	for i := range old {
		old[i] = api.Unit{Name: fmt.Sprint(i), Requires: []string{fmt.Sprint(i + 1)}}
	}
	stop, stay, start := units.Diff(old, old)
	if len(stop)+len(start) != 0 || len(stay) != n {
		t.Errorf("Diff with itself: %d, %d, %d", len(stop), len(stay), len(start))
	}
	fresh := slices.Clone(old)
	fresh[n-1].Start = "other"
	stop, stay, start = units.Diff(old, fresh)
	if len(stop) != n || stop[0] != fmt.Sprint(n-1) || len(stay) != 0 || len(start) != n || start[0] != "0" {
		t.Errorf("Diff: %d, %d, %d", len(stop), len(stay), len(start))
	}
}
