package eval_test

import (
	"strconv"
	"strings"
	"testing"

	"bootjack/api"
	"bootjack/eval"
	"bootjack/print"
	"bootjack/value"
)

// nested puts nodes of a kind around an expression, each around the one ahead.
// Each node's place is how many stand ahead of it, and 100 more.
func nested(l []api.Node, kind, times int) []api.Node {
	for range times {
		l = append(l, api.Node{Kind: kind, Kids: []int{len(l) - 1}})
	}
	for i := range l {
		l[i].At = 100 + i
		if l[i].Kind == api.NSet || l[i].Kind == api.NRec {
			l[i].Names = []string{"a"}
		}
	}
	return l
}

func TestE3Nest(t *testing.T) {
	for _, c := range []struct {
		times, steps int
		fault        api.Fault
	}{{198, 200, api.Fault{At: -1}}, {199, 201, api.Fault{At: -1}}, {200, 202, api.Fault{At: 100, Err: api.ErrDeep}}, {201, 202, api.Fault{At: 101, Err: api.ErrDeep}}, {900, 202, api.Fault{At: 800, Err: api.ErrDeep}}} {
		f := nested([]api.Node{{Kind: api.NInt, Int: 7}}, api.NNeg, c.times)
		_, n, err := eval.Eval(f, api.MaxFuel)
		if !print.Right(f) || n != c.steps || faultOf(err) != c.fault {
			t.Errorf("%d times -: %d steps, %+v; must be %d, %+v", c.times, n, faultOf(err), c.steps, c.fault)
		}
		// First the step, then whether there are too many.
		if _, n, err := eval.Eval(f, c.steps-1); n != c.steps-1 || faultOf(err).Err != api.ErrFuel {
			t.Errorf("%d times -: with one step less %d steps, %+v", c.times, n, faultOf(err))
		}
	}
	// What is through is no longer under way, a built-in that no node called, too.
	ones := strings.Repeat("1 ", 256)
	checkTold(t, told{"map toInt [ " + ones + "]", "[ " + ones + "]"}, told{"filter (elem 1) (map (x: [ x ]) [ " + ones + "]) == [ ]", "false"})
	checkTold(t, told{"fold (a: x: a + x) 0 (map (x: x) (let l = [ 1 1 1 1 1 1 1 1 ]; m = l ++ l ++ l ++ l; in m ++ m ++ m ++ m ++ m ++ m ++ m ++ m))", "256"})
	checkTold(t, told{"let f = n: if n == 0 then 0 else 1 + f (n - 1); in f 64", "64"})
	checkWrong(t, wrong{"let f = n: if n == 0 then 0 else 1 + f (n - 1); in f 65", api.ErrDeep, 42}, wrong{"let f = x: f x; in f 1", api.ErrDeep, 11})
}

func TestE3Deep(t *testing.T) {
	for _, kind := range []int{api.NList, api.NSet, api.NRec} {
		for times, bad := range map[int]bool{1: false, 31: false, 32: false, 33: true, 34: true, 300: true} {
			f := nested([]api.Node{{Kind: api.NInt, Int: 7}}, kind, times)
			v, n, err := eval.Eval(f, api.MaxFuel)
			if bad && (faultOf(err) != (api.Fault{Err: api.ErrDeep}) || n != 66) {
				t.Errorf("%d nodes %d: %d steps, %+v", times, kind, n, faultOf(err))
			}
			if !bad && (err != nil || n != 2*times+2 || strings.Count(value.Show(v), "7") != 1) {
				t.Errorf("%d nodes %d: %s, %d steps, %+v", times, kind, value.Show(v), n, faultOf(err))
			}
		}
	}
	// The one too many is forced ahead of the error, and what is no list may stand there.
	checkWrong(t, wrong{"let f = n: if n == 0 then y else [ (f (n - 1)) ]; in f 32", api.ErrName, 26}, wrong{"let l = { a = l; }; in l", api.ErrDeep, 0}, wrong{"   [ (let l = [ l ]; in l) ]", api.ErrDeep, 0})
}

// items are so many kids and the names of each.
func items(kind, n int) []api.Node {
	node := api.Node{Kind: kind, At: 9}
	var l []api.Node
	for i := range n {
		l = append(l, api.Node{Kind: api.NInt, Int: int64(i)})
		node.Kids = append(node.Kids, i)
		if kind != api.NList {
			node.Names = append(node.Names, "n"+strconv.Itoa(i))
		}
	}
	if kind == api.NLet {
		l = append(l, api.Node{Kind: api.NName, Text: "n" + strconv.Itoa(n-1)})
		node.Kids = append(node.Kids, n)
	}
	return append(l, node)
}

func TestE3Long(t *testing.T) {
	for _, kind := range []int{api.NList, api.NSet, api.NRec} {
		v, n, err := eval.Eval(items(kind, 256), api.MaxFuel)
		if err != nil || n != 514 || len(v.Items) != 256 {
			t.Errorf("256 of %d: %d items, %d steps, %+v", kind, len(v.Items), n, faultOf(err))
		}
		for _, many := range []int{257, 999} {
			if _, n, err := eval.Eval(items(kind, many), api.MaxFuel); faultOf(err) != (api.Fault{At: 9, Err: api.ErrLong}) || n != 2 {
				t.Errorf("%d of %d: %d steps, %+v", many, kind, n, faultOf(err))
			}
		}
	}
	// A let is no set.
	if v, n, err := eval.Eval(items(api.NLet, 900), api.MaxFuel); err != nil || n != 4 || v.Int != 899 {
		t.Errorf("let of 900 names: %s, %d steps, %+v", value.Show(v), n, faultOf(err))
	}
}

func TestE3LongerByReckoning(t *testing.T) {
	ones := "[ " + strings.Repeat("1 ", 128) + "]"
	checkTold(t, told{"let l = " + ones + "; in length (l ++ l)", "256"})
	checkWrong(t, wrong{"(l: l ++ [ 1 ] ++ l) " + ones, api.ErrLong, 6}, wrong{"(l: l ++ l ++ l) " + ones, api.ErrLong, 6})

	set := func(from, n int) string {
		var s strings.Builder
		for i := from; i < from+n; i++ {
			s.WriteString("n" + strconv.Itoa(i) + "=1;")
		}
		return "{" + s.String() + "}"
	}
	checkTold(t, told{"length (names (" + set(0, 128) + " // " + set(100, 156) + "))", "256"}, told{"length (names (mkOption " + set(0, 255) + "))", "256"}, told{"length (names (mkOption (" + set(0, 255) + " // { _is = 1; })))", "256"})
	checkWrong(t, wrong{"(a: b: a // b) " + set(0, 128) + " " + set(100, 157), api.ErrLong, 9}, wrong{"mkOption " + set(0, 256), api.ErrLong, 0})

	text := strings.Repeat("a", 512)
	checkTold(t, told{"typeOf (join \"\" [ \"" + text + "\" \"" + text + "\" ])", `"string"`}, told{"(s: typeOf (s + s)) \"" + text + "\"", `"string"`})
	checkWrong(t, wrong{"(s: s + s + \"b\") \"" + text + "\"", api.ErrLong, 10}, wrong{"(s: join \"b\" [ s s ]) \"" + text + "\"", api.ErrLong, 4}, wrong{"(s: join s [ \"\" \"\" \"\" \"\" ]) \"" + text + "\"", api.ErrLong, 4})
	// That a part is no text is told ahead of that all is too long.
	checkWrong(t, wrong{"(s: join s [ s s s 1 ]) \"" + text + "\"", api.ErrType, 4})
}
