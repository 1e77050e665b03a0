package eval_test

import (
	"errors"
	"math"
	"reflect"
	"strings"
	"testing"

	"bootjack/api"
	"bootjack/eval"
	"bootjack/value"
)

// troubleOf is the trouble that a machine's error is.
func troubleOf(err error) api.Trouble {
	var t *api.Trouble
	if !errors.As(err, &t) {
		return api.Trouble{At: -1}
	}
	return *t
}

func whole(n int64) api.Value       { return api.Value{Kind: api.VInt, Int: n} }
func text(s string) api.Value       { return api.Value{Kind: api.VString, Text: s} }
func list(l ...api.Value) api.Value { return api.Value{Kind: api.VList, Items: l} }

// machine is one with all fuel, and a way to load texts.
type machine struct {
	*eval.Machine
	t *testing.T
}

func newMachine(t *testing.T) machine { return machine{eval.New(api.MaxFuel), t} }

func (m machine) load(module, text string) *eval.Thunk {
	m.t.Helper()
	return m.Load(module, parsed(m.t, text))
}

func (m machine) shows(t *eval.Thunk, want string) {
	m.t.Helper()
	if v, err := m.Deep(t); err != nil || value.Show(v) != want {
		m.t.Errorf("%s, %+v; must be %s", value.Show(v), troubleOf(err), want)
	}
}

// fails asks both Force and Deep, of thunks that are made anew.
func (m machine) fails(make func() *eval.Thunk, want api.Trouble) {
	m.t.Helper()
	s, err := m.Force(make())
	if !reflect.DeepEqual(s, eval.Shape{}) || troubleOf(err) != want {
		m.t.Errorf("Force: %+v, %+v; must be %+v", s, troubleOf(err), want)
	}
	v, err := m.Deep(make())
	if !reflect.DeepEqual(v, api.Value{}) || troubleOf(err) != want {
		m.t.Errorf("Deep: %+v, %+v; must be %+v", v, troubleOf(err), want)
	}
}

func TestE1New(t *testing.T) {
	for _, fuel := range []int{-1, math.MinInt, api.MaxFuel + 1, math.MaxInt} {
		if eval.New(fuel) != nil {
			t.Errorf("New(%d) is a machine", fuel)
		}
	}
	for _, fuel := range []int{0, 1, api.MaxFuel} {
		if m := eval.New(fuel); m == nil || m.Steps() != 0 {
			t.Errorf("New(%d) is none", fuel)
		}
	}
}

func TestE1Step(t *testing.T) {
	for _, fuel := range []int{0, 1, 7, api.MaxFuel} {
		m := eval.New(fuel)
		for i := range fuel {
			if err := m.Step(); err != nil || m.Steps() != i+1 {
				t.Fatalf("step %d of %d: %v, %d", i, fuel, err, m.Steps())
			}
		}
		for range 2 {
			if err := m.Step(); troubleOf(err) != (api.Trouble{Err: api.ErrFuel}) || m.Steps() != fuel {
				t.Errorf("behind all of %d: %+v, %d", fuel, err, m.Steps())
			}
		}
		if _, err := m.Force(m.Load("m", parsed(t, "  1"))); troubleOf(err) != (api.Trouble{Module: "m", At: 2, Err: api.ErrFuel}) {
			t.Errorf("%+v", err)
		}
		if _, err := m.Deep(m.Put(whole(1))); troubleOf(err) != (api.Trouble{Err: api.ErrFuel}) {
			t.Errorf("%+v", err)
		}
		if s, err := m.Force(m.Put(whole(1))); err != nil || s.Int != 1 {
			t.Errorf("what is known costs: %+v", err)
		}
	}
}

func TestE1Fail(t *testing.T) {
	m := newMachine(t)
	for _, e := range []api.Errno{api.ErrArg, api.ErrModule, api.ErrType, api.OK} {
		if err := m.Fail(e); troubleOf(err) != (api.Trouble{Err: e}) || !errors.Is(err, e) {
			t.Errorf("%+v", err)
		}
	}
	if m.Steps() != 0 {
		t.Errorf("%d steps", m.Steps())
	}
	// Within a Later it tells the node that is under way and began last.
	var within []api.Trouble
	note := m.Later(func() (*eval.Thunk, error) {
		within = append(within, troubleOf(m.Fail(api.ErrUnset)))
		m.Force(m.load("other", "      1"))
		within = append(within, troubleOf(m.Fail(api.ErrUnset)))
		m.Force(m.load("other", "      1 / 0"))
		within = append(within, troubleOf(m.Fail(api.ErrUnset)))
		return m.Put(whole(1)), nil
	})
	m.shows(m.Call(m.load("mod", "x: 5 + 1 - x"), note), "5")
	at := api.Trouble{Module: "mod", At: 11, Err: api.ErrUnset}
	if len(within) != 3 || within[0] != at || within[1] != at || within[2] != at {
		t.Errorf("%+v", within)
	}
	if troubleOf(m.Fail(api.ErrArg)) != (api.Trouble{Err: api.ErrArg}) {
		t.Errorf("behind all a node is under way still")
	}
}

func TestE1Load(t *testing.T) {
	m := newMachine(t)
	m.shows(m.load("a", "{ x = 1; y = [ (z: z) ]; }"), `{ "x"=1; "y"=[ function ]; }`)
	m.load("a", "1 / 0")
	m.fails(func() *eval.Thunk { return m.load("a", " 1 / 0") }, api.Trouble{Module: "a", At: 3, Err: api.ErrZero})
	m.fails(func() *eval.Thunk { return m.load("", " y") }, api.Trouble{At: 1, Err: api.ErrName})
	// Each node belongs to the module in which it stands.
	broken := func() *eval.Thunk { return m.load("b", "    x: x.a") }
	m.fails(func() *eval.Thunk { return m.Call(broken(), m.load("c", "  y")) }, api.Trouble{Module: "c", At: 2, Err: api.ErrName})
	m.fails(func() *eval.Thunk { return m.Call(broken(), m.load("c", "  { }")) }, api.Trouble{Module: "b", At: 8, Err: api.ErrAttr})
	m.fails(func() *eval.Thunk { return m.Call(m.load("c", "f: f { a = 1 / 0; }"), broken()) }, api.Trouble{Module: "c", At: 13, Err: api.ErrZero})
	m.fails(func() *eval.Thunk { return m.Call(m.load("c", "f: 1 + f { }"), broken()) }, api.Trouble{Module: "b", At: 8, Err: api.ErrAttr})
	m.fails(func() *eval.Thunk { return m.Call(m.load("c", "f: 1 + f null"), m.load("b", "x: x")) }, api.Trouble{Module: "c", At: 5, Err: api.ErrType})
	// Its scope is without names.
	m.fails(func() *eval.Thunk { return m.Call(m.load("b", "x: y"), m.load("c", "let y = 1; in y")) }, api.Trouble{Module: "b", At: 3, Err: api.ErrName})
}

func TestE1LoadCostsNothing(t *testing.T) {
	m := newMachine(t)
	l := m.load("a", "1 + 1")
	m.Call(l, l)
	m.Put(list(whole(1)))
	m.Set([]string{"a"}, []*eval.Thunk{l})
	m.Later(func() (*eval.Thunk, error) { t.Error("it was not needed"); return l, nil })
	if m.Steps() != 0 {
		t.Errorf("%d steps", m.Steps())
	}
	for i := range 3 {
		if s, err := m.Force(l); err != nil || s.Int != 2 || m.Steps() != 3 {
			t.Errorf("time %d: %+v, %v, %d steps", i, s, err, m.Steps())
		}
	}
}

func TestE2Force(t *testing.T) {
	m := newMachine(t)
	for s, want := range map[string]eval.Shape{
		"null": {}, "true": {Kind: api.VBool, Int: 1}, "false": {Kind: api.VBool}, "-7": {Kind: api.VInt, Int: -7}, "1.5": {Kind: api.VFloat, Float: 1.5}, `"a"`: {Kind: api.VString, Text: "a"}, "x: x": {Kind: api.VFunc}, "length": {Kind: api.VFunc}, "fold 1": {Kind: api.VFunc},
	} {
		got, err := m.Force(m.load("", s))
		if err != nil || got.Kind != want.Kind || got.Int != want.Int || got.Float != want.Float || got.Text != want.Text || len(got.Names)+len(got.Items) > 0 {
			t.Errorf("%s: %+v, %v", s, got, err)
		}
	}
	s, err := m.Force(m.load("", "[ 1 (1 / 0) ]"))
	if err != nil || s.Kind != api.VList || len(s.Items) != 2 || len(s.Names) > 0 {
		t.Fatalf("%+v, %v", s, err)
	}
	m.shows(s.Items[0], "1")
	s, err = m.Force(m.load("", "rec { c = 1 / 0; a = b + 1; b = 2; }"))
	if err != nil || s.Kind != api.VSet || len(s.Items) != 3 || strings.Join(s.Names, " ") != "a b c" {
		t.Fatalf("%+v, %v", s, err)
	}
	m.shows(s.Items[0], "3")
	m.shows(s.Items[1], "2")
	if _, err := m.Force(s.Items[2]); troubleOf(err) != (api.Trouble{At: 12, Err: api.ErrZero}) {
		t.Errorf("%+v", err)
	}
}

func TestE2Call(t *testing.T) {
	m := newMachine(t)
	m.shows(m.Call(m.load("", "x: [ x (x + 1) ]"), m.Put(whole(4))), "[ 4 5 ]")
	m.shows(m.Call(m.Call(m.load("", "item"), m.load("", "[ 1 2 ]")), m.Put(whole(1))), "2")
	m.shows(m.Call(m.load("", "x: 1"), m.load("", "1 / 0")), "1")
	m.shows(m.Call(m.load("", "map"), m.load("", "1 / 0")), "function")
	m.fails(func() *eval.Thunk { return m.Call(m.load("a", "  1"), m.load("a", "1 / 0")) }, api.Trouble{Err: api.ErrType})
	m.fails(func() *eval.Thunk { return m.Call(m.load("a", "  y"), m.load("a", "1 / 0")) }, api.Trouble{Module: "a", At: 2, Err: api.ErrName})
	m.fails(func() *eval.Thunk { return m.Call(m.load("a", "  head"), m.load("a", "[ ]")) }, api.Trouble{Err: api.ErrEmpty})
	// Its value is found once.
	m = newMachine(t)
	c := m.Call(m.load("", "x: x + x"), m.load("", "1 + 1"))
	for range 3 {
		if s, err := m.Force(c); err != nil || s.Int != 4 || m.Steps() != 7 {
			t.Errorf("%+v, %v, %d steps", s, err, m.Steps())
		}
	}
}

func TestE2Put(t *testing.T) {
	m := newMachine(t)
	deep := list()
	for range 31 {
		deep = list(deep)
	}
	for _, v := range []api.Value{{}, {Kind: api.VBool, Int: 1}, whole(math.MinInt64), {Kind: api.VFloat, Float: math.Inf(-1)}, {Kind: api.VFloat, Float: math.NaN()}, {Kind: api.VFloat, Float: math.Copysign(0, -1)}, text("a"), list(), list(whole(1), list(text("b"))), {Kind: api.VSet}, {Kind: api.VSet, Names: []string{"", "a"}, Items: []api.Value{list(), {}}}, deep} {
		got, err := m.Deep(m.Put(v))
		if err != nil || !value.Same(got, v) {
			t.Errorf("%s: %s, %v", value.Show(v), value.Show(got), err)
		}
	}
	if steps := m.Steps(); steps != 12+3+2+31 {
		t.Errorf("%d steps", steps)
	}
	m.shows(m.Call(m.load("", "s: s.a + s.b"), m.Put(api.Value{Kind: api.VSet, Names: []string{"a", "b"}, Items: []api.Value{whole(1), whole(2)}})), "3")
}

func TestE2Set(t *testing.T) {
	m := newMachine(t)
	s := m.Set([]string{"a", "b"}, []*eval.Thunk{m.load("", "1 + 1"), m.load("q", " 1 / 0")})
	m.shows(m.Call(m.load("", "s: [ s.a s.a (s ? b) (s ? c) (names s) ]"), s), `[ 2 2 true false [ "a" "b" ] ]`)
	if _, err := m.Deep(s); troubleOf(err) != (api.Trouble{Module: "q", At: 3, Err: api.ErrZero}) {
		t.Errorf("%+v", err)
	}
	m.shows(m.Set(nil, nil), "{ }")
	steps := m.Steps()
	if f, err := m.Force(s); err != nil || f.Kind != api.VSet || strings.Join(f.Names, " ") != "a b" || len(f.Items) != 2 || m.Steps() != steps {
		t.Errorf("%+v, %v, %d steps", f, err, m.Steps()-steps)
	}
}

func TestE2Later(t *testing.T) {
	m := newMachine(t)
	calls := 0
	l := m.Later(func() (*eval.Thunk, error) {
		calls++
		return m.load("", "1 + 1"), nil
	})
	if calls != 0 {
		t.Errorf("it is called when it is made")
	}
	m.shows(m.Call(m.load("", "x: y: [ x x ]"), l), "function")
	if calls != 0 {
		t.Errorf("it is called where it is not needed")
	}
	m.shows(m.Call(m.load("", "x: [ x x ]"), l), "[ 2 2 ]")
	m.shows(l, "2")
	if calls != 1 {
		t.Errorf("it is called %d times", calls)
	}
	// What needs itself.
	var self *eval.Thunk
	self = m.Later(func() (*eval.Thunk, error) { return m.Call(m.load("m", "  x: x + 1"), self), nil })
	if _, err := m.Force(self); troubleOf(err) != (api.Trouble{Module: "m", At: 5, Err: api.ErrLoop}) {
		t.Errorf("%+v", err)
	}
	self = m.Later(func() (*eval.Thunk, error) { return self, nil })
	if _, err := m.Force(self); troubleOf(err) != (api.Trouble{Err: api.ErrLoop}) {
		t.Errorf("%+v", err)
	}
	self = m.Later(func() (*eval.Thunk, error) { _, err := m.Deep(self); return nil, err })
	if _, err := m.Deep(self); troubleOf(err) != (api.Trouble{Err: api.ErrLoop}) {
		t.Errorf("%+v", err)
	}
}

// What a Later says is told as it says it, through all that needs it.
func TestE2LaterFails(t *testing.T) {
	m := newMachine(t)
	said := &api.Trouble{Module: "x", At: 3, Option: "a.b", Err: api.ErrConflict}
	bad := func() *eval.Thunk { return m.Later(func() (*eval.Thunk, error) { return nil, said }) }
	m.fails(bad, *said)
	m.fails(func() *eval.Thunk { return m.Call(m.load("m", "x: map (y: y + 1) [ x ] == [ 1 ]"), bad()) }, *said)
	failing := func() *eval.Thunk {
		return m.Later(func() (*eval.Thunk, error) { return nil, m.Fail(api.ErrUnset) })
	}
	m.fails(failing, api.Trouble{Err: api.ErrUnset})
	m.fails(func() *eval.Thunk { return m.Call(m.load("m", "x: 5 - x"), failing()) }, api.Trouble{Module: "m", At: 7, Err: api.ErrUnset})
	// Behind an error nothing is under way any more.
	if got := troubleOf(m.Fail(api.ErrArg)); got != (api.Trouble{Err: api.ErrArg}) {
		t.Errorf("%+v", got)
	}
}

func TestE2LaterTakesSteps(t *testing.T) {
	m := eval.New(10)
	l := m.Later(func() (*eval.Thunk, error) {
		for {
			if err := m.Step(); err != nil {
				return nil, err
			}
		}
	})
	_, err := m.Force(m.Call(m.Load("m", parsed(t, " x: -x")), l))
	if troubleOf(err) != (api.Trouble{Module: "m", At: 5, Err: api.ErrFuel}) || m.Steps() != 10 {
		t.Errorf("%+v, %d steps", err, m.Steps())
	}
}

// chain calls a function so many times, each with what was called ahead; what
// stands between is asked by a Later that forces it itself.
func (m machine) chain(n int) *eval.Thunk {
	c := m.Put(whole(1))
	for range n {
		ahead := c
		l := m.Later(func() (*eval.Thunk, error) {
			if _, err := m.Force(ahead); err != nil {
				return nil, err
			}
			return ahead, nil
		})
		f := m.load("m", "x: -x")
		m.Force(f)
		c = m.Call(f, l)
	}
	return c
}

// Nodes that are under way outside of a Later count within it.
func TestE2NestThroughLater(t *testing.T) {
	m := newMachine(t)
	for range 3 {
		m.shows(m.chain(100), "1")
		m.fails(func() *eval.Thunk { return m.chain(101) }, api.Trouble{Module: "m", At: 3, Err: api.ErrDeep})
	}
}

// A built-in that is run while 200 nodes are under way is one too many.
func TestE2NestOfBuiltIns(t *testing.T) {
	m := newMachine(t)
	length := m.load("", "length")
	m.Force(length)
	for times, want := range map[int]api.Trouble{197: {At: -1}, 198: {At: -1}, 199: {Module: "m", At: 100, Err: api.ErrDeep}} {
		f := nested([]api.Node{{Kind: api.NName, Text: "x"}}, api.NNeg, times)
		f = append(f, api.Node{Kind: api.NLambda, Text: "x", Kids: []int{len(f) - 1}})
		c := m.Load("m", f)
		m.Force(c)
		if _, err := m.Force(m.Call(c, m.Call(length, m.Put(list())))); troubleOf(err) != want {
			t.Errorf("%d: %+v", times, troubleOf(err))
		}
	}
}

func TestE3DeepOfThunks(t *testing.T) {
	m := newMachine(t)
	v, err := m.Deep(m.Set([]string{"f", "l"}, []*eval.Thunk{m.load("", "x: x"), m.Put(list(whole(1), text("a")))}))
	if err != nil || value.Show(v) != `{ "f"=function; "l"=[ 1 "a" ]; }` || m.Steps() != 6 {
		t.Errorf("%s, %v, %d steps", value.Show(v), err, m.Steps())
	}
	// Within a Later its errors tell the node that is under way.
	l := m.Later(func() (*eval.Thunk, error) {
		_, err := m.Deep(m.load("other", "let l = [ l ]; in l"))
		return nil, err
	})
	if _, err := m.Deep(m.Call(m.load("m", "  x: 1 + x"), l)); troubleOf(err) != (api.Trouble{Module: "m", At: 9, Err: api.ErrDeep}) {
		t.Errorf("%+v", err)
	}
}

// What may not be handed in is an error when it is forced, and never a panic.
func TestR1Arguments(t *testing.T) {
	m := newMachine(t)
	one := m.Put(whole(1))
	for _, f := range [][]api.Node{nil, {{Kind: 99}}, {{Kind: api.NNeg, Kids: []int{0}}}, {{Kind: api.NList, Kids: []int{5, -1}}}, {{Kind: api.NIf}}} {
		m.fails(func() *eval.Thunk { return m.Load("a", f) }, api.Trouble{Err: api.ErrArg})
	}
	own := list(whole(1))
	own.Items[0] = own
	for _, v := range []api.Value{{Kind: 8}, {Kind: -1}, {Kind: api.VBool, Int: 2}, {Kind: api.VSet, Names: []string{"a"}}, {Kind: api.VSet, Names: []string{"b", "a"}, Items: make([]api.Value, 2)}, text(strings.Repeat("a", 1025)), list(make([]api.Value, 257)...), own, {Kind: api.VFunc}, list(list(api.Value{Kind: api.VFunc}))} {
		m.fails(func() *eval.Thunk { return m.Put(v) }, api.Trouble{Err: api.ErrArg})
	}
	for _, names := range [][]string{{"a"}, {"b", "a"}, {"a", "a"}, {"a", "b", "c"}, {"a", strings.Repeat("b", 1025)}, nil} {
		m.fails(func() *eval.Thunk { return m.Set(names, []*eval.Thunk{one, one}) }, api.Trouble{Err: api.ErrArg})
	}
	var names []string
	var items []*eval.Thunk
	for i := range 257 {
		names, items = append(names, string([]byte{'n', byte(i >> 8), byte(i)})), append(items, one)
	}
	m.fails(func() *eval.Thunk { return m.Set(names, items) }, api.Trouble{Err: api.ErrLong})
	if s, err := m.Force(m.Set(names[:256], items[:256])); err != nil || len(s.Names) != 256 {
		t.Errorf("256 names: %v", err)
	}
	m.fails(func() *eval.Thunk { return m.Later(nil) }, api.Trouble{Err: api.ErrArg})
	m.fails(func() *eval.Thunk { return m.Call(m.load("m", "x: 1 + x"), m.Put(own)) }, api.Trouble{Module: "m", At: 7, Err: api.ErrArg})
	// A thunk of another machine, and one of which an error was told.
	other := newMachine(t)
	other.Force(m.load("m", "1 + 1"))
	other.Force(m.load("m", "y"))
	bad := m.load("m", "1 / 0")
	m.Force(bad)
	m.Force(bad)
	m.Deep(bad)
}

// A Later's own panic is its own.
func TestR1PanicOfLater(t *testing.T) {
	m := newMachine(t)
	defer func() {
		if r := recover(); r != "mine" {
			t.Errorf("%v", r)
		}
	}()
	m.Force(m.Later(func() (*eval.Thunk, error) { panic("mine") }))
}
