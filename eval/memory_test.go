package eval_test

import (
	"reflect"
	"slices"
	"testing"

	"bootjack/api"
	"bootjack/eval"
	"bootjack/value"
)

func cloneNodes(f []api.Node) []api.Node {
	f = slices.Clone(f)
	for i := range f {
		f[i].Names, f[i].Kids = slices.Clone(f[i].Names), slices.Clone(f[i].Kids)
	}
	return f
}

// spoilNodes writes over all of an expression.
func spoilNodes(f []api.Node) {
	for i := range f {
		for k := range f[i].Names {
			f[i].Names[k] = "spoilt"
		}
		for k := range f[i].Kids {
			f[i].Kids[k] = 0
		}
		f[i] = api.Node{Kind: api.NString, Text: "spoilt"}
	}
}

// spoilValue writes over all that a value has room for.
func spoilValue(v api.Value) {
	for i := range v.Names[:cap(v.Names)] {
		v.Names[:cap(v.Names)][i] = "spoilt"
	}
	for i := range v.Items[:cap(v.Items)] {
		spoilValue(v.Items[:cap(v.Items)][i])
		v.Items[:cap(v.Items)][i] = text("spoilt")
	}
}

func spoilShape(s eval.Shape) {
	for i := range s.Names[:cap(s.Names)] {
		s.Names[:cap(s.Names)][i] = "spoilt"
	}
	for i := range s.Items[:cap(s.Items)] {
		s.Items[:cap(s.Items)][i] = nil
	}
}

const manyParts = `let s = rec { b = [ 1 [ "x" ] (x: { inherit x; }) ]; a = { c = b; d = s; }; }; in { p = s.a.c; q = names s; r = tail s.b; t = values { a = 1; z = 2; }; u = s // { c = 1; a = 2; }; v = [ 3 ] ++ tail [ 4 5 ]; w = mkIf 1 2; o = mkOption { k = 1; }; m = map (x: x) [ 6 ]; f = filter (x: true) [ 7 ]; }`

func TestR3Expressions(t *testing.T) {
	f := parsed(t, manyParts)
	kept := cloneNodes(f)
	want, steps, err := eval.Eval(f, api.MaxFuel)
	if err != nil || !reflect.DeepEqual(f, kept) {
		t.Fatalf("%v; the nodes were changed", err)
	}
	m := newMachine(t)
	l := m.Load("m", f)
	again, _, _ := eval.Eval(f, api.MaxFuel)
	spoilNodes(f)
	got, err := m.Deep(l)
	if err != nil || !value.Same(got, want) || m.Steps() != steps {
		t.Errorf("%s, %+v", value.Show(got), troubleOf(err))
	}
	spoilValue(want)
	if !value.Same(again, got) {
		t.Errorf("two answers share memory")
	}
}

func TestR3Answers(t *testing.T) {
	m := newMachine(t)
	l := m.Load("m", parsed(t, manyParts))
	want, _ := m.Deep(l)
	// All shapes within are told twice, and spoilt.
	var spoil func(t *eval.Thunk, deep int)
	spoil = func(t *eval.Thunk, deep int) {
		if deep > 6 {
			return
		}
		s, _ := m.Force(t)
		for _, item := range s.Items {
			spoil(item, deep+1)
		}
		spoilShape(s)
	}
	spoil(l, 0)
	got, err := m.Deep(l)
	if err != nil || !value.Same(got, want) {
		t.Errorf("%s, %+v; must be %s", value.Show(got), troubleOf(err), value.Show(want))
	}
	spoilValue(got)
	if again, _ := m.Deep(l); !value.Same(again, want) {
		t.Errorf("an answer shares memory with the machine: %s", value.Show(again))
	}
}

func TestR3Arguments(t *testing.T) {
	m := newMachine(t)
	v := api.Value{Kind: api.VSet, Names: []string{"a", "b"}, Items: []api.Value{list(whole(1), list(text("x"))), {Kind: api.VSet, Names: []string{"c"}, Items: []api.Value{{}}}}}
	p := m.Put(v)
	show := value.Show(v)
	names, items := []string{"k", "l"}, []*eval.Thunk{p, p}
	s := m.Set(names, items)
	m.shows(p, show)
	if value.Show(v) != show || names[0] != "k" || items[1] != p {
		t.Errorf("what is handed in was changed")
	}
	spoilValue(v)
	names[0], items[0], items[1] = "z", nil, nil
	m.shows(p, show)
	m.shows(s, `{ "k"=`+show+`; "l"=`+show+`; }`)
	told, _ := m.Deep(p)
	spoilValue(told)
	m.shows(s, `{ "k"=`+show+`; "l"=`+show+`; }`)
}

// Two errors of one machine are two.
func TestR3Errors(t *testing.T) {
	m := newMachine(t)
	a, b := m.Fail(api.ErrArg).(*api.Trouble), m.Fail(api.ErrArg).(*api.Trouble)
	a.At, a.Err = 7, api.ErrType
	if *b != (api.Trouble{Err: api.ErrArg}) {
		t.Errorf("%+v", b)
	}
}

func TestR4NothingByChance(t *testing.T) {
	for _, s := range []string{manyParts, "{ c = y; b = z; a = 1 / 0; }", "rec { z = 1; y = z; x = y; w = q; }"} {
		f := parsed(t, s)
		want, steps, err := eval.Eval(f, api.MaxFuel)
		for range 50 {
			v, n, again := eval.Eval(f, api.MaxFuel)
			if !value.Same(v, want) || n != steps || faultOf(again) != faultOf(err) {
				t.Fatalf("%s: another answer", s)
			}
		}
	}
}
