package eval_test

import (
	"maps"
	"math"
	"math/big"
	"slices"
	"strings"

	"bootjack/api"
	"bootjack/value"
)

// The model is a machine with a stack of its own: nothing in it is done within
// something else, what is under way is what stands on the stack. Its scopes are
// maps in which all names that are known stand at once.

type mValue struct {
	api.Value // without parts
	list      []*mThunk
	set       map[string]*mThunk
	call      func(x *mThunk)
}

type mThunk struct {
	find func() // till it is begun
	v    *mValue
}

type mFrame struct {
	counts bool      // a node's, or a built-in's
	node   *api.Node // of a node
	then   func(v mValue)
}

type mScope struct {
	names map[string]*mThunk
	withs []*mThunk // the innermost first
}

type mModel struct {
	nodes       []api.Node
	fuel, steps int
	stack       []mFrame
	next        func()
}

// modelEval tells what Eval must tell of an expression that is right.
func modelEval(f []api.Node, fuel int) (v api.Value, steps int, fault *api.Fault) {
	m := &mModel{nodes: f, fuel: fuel}
	defer func() {
		if r := recover(); r != nil {
			v, steps, fault = api.Value{}, m.steps, r.(*api.Fault)
		}
	}()
	m.next = func() {
		m.deep(m.node(len(f)-1, mScope{}), 0, func(told api.Value) { v = told })
	}
	for m.next != nil {
		do := m.next
		m.next = nil
		do()
	}
	return v, m.steps, nil
}

func (m *mModel) fail(e api.Errno) {
	at := 0
	for _, f := range m.stack {
		if f.node != nil {
			at = f.node.At
		}
	}
	panic(&api.Fault{At: at, Err: e})
}

func (m *mModel) step() {
	if m.steps >= m.fuel {
		m.fail(api.ErrFuel)
	}
	m.steps++
}

// answer hands a value to what waits for it.
func (m *mModel) answer(v mValue) {
	top := m.stack[len(m.stack)-1]
	m.stack = m.stack[:len(m.stack)-1]
	m.next = func() { top.then(v) }
}

func (m *mModel) wait(then func(v mValue)) { m.stack = append(m.stack, mFrame{then: then}) }

// count begins what counts as being under way.
func (m *mModel) count(n *api.Node) {
	m.stack = append(m.stack, mFrame{counts: true, node: n, then: m.answer})
	m.step()
	others := -1
	for _, f := range m.stack {
		if f.counts {
			others++
		}
	}
	if others >= 200 {
		m.fail(api.ErrDeep)
	}
}

func (m *mModel) node(i int, s mScope) *mThunk {
	return &mThunk{find: func() { m.eval(i, s) }}
}

func (m *mModel) force(t *mThunk, then func(v mValue)) {
	if t.v != nil {
		m.next = func() { then(*t.v) }
		return
	}
	if t.find == nil {
		m.fail(api.ErrLoop)
	}
	m.next, t.find = t.find, nil
	m.wait(func(v mValue) {
		t.v = &v
		then(v)
	})
}

// forceAll forces one behind the other; ErrType, if one is of another kind.
func (m *mModel) forceAll(kind int, l []*mThunk, then func(vs []mValue)) {
	var vs []mValue
	var one func()
	one = func() {
		if len(vs) == len(l) {
			then(vs)
			return
		}
		m.kind(kind, l[len(vs)], func(v mValue) {
			vs = append(vs, v)
			one()
		})
	}
	one()
}

func (m *mModel) kind(kind int, t *mThunk, then func(v mValue)) {
	m.force(t, func(v mValue) {
		if v.Kind != kind {
			m.fail(api.ErrType)
		}
		then(v)
	})
}

func mKnown(v mValue) *mThunk { return &mThunk{v: &v} }

func mPlain(v api.Value) mValue { return mValue{Value: v} }

func mBool(is bool) mValue {
	v := mPlain(api.Value{Kind: api.VBool})
	if is {
		v.Int = 1
	}
	return v
}

func mInt(n int64) mValue { return mPlain(api.Value{Kind: api.VInt, Int: n}) }

func mText(s string) mValue { return mPlain(api.Value{Kind: api.VString, Text: s}) }

func mList(l []*mThunk) mValue { return mValue{Value: api.Value{Kind: api.VList}, list: l} }

func mSet(s map[string]*mThunk) mValue { return mValue{Value: api.Value{Kind: api.VSet}, set: s} }

func (m *mModel) called(f, x *mThunk) *mThunk {
	return &mThunk{find: func() { m.kind(api.VFunc, f, func(v mValue) { v.call(x) }) }}
}

// must answers what the layer of values told.
func (m *mModel) must(v api.Value, e api.Errno) {
	if e != api.OK {
		m.fail(e)
	}
	m.answer(mPlain(v))
}

func (m *mModel) mustHold(is bool, e api.Errno) bool {
	if e != api.OK {
		m.fail(e)
	}
	return is
}

func (m *mModel) short(n, most int) {
	if n > most {
		m.fail(api.ErrLong)
	}
}

// eval answers what a node is.
func (m *mModel) eval(i int, s mScope) {
	n := &m.nodes[i]
	m.count(n)
	kid := func(k int) func() { return func() { m.eval(n.Kids[k], s) } }
	ask := func(k int, then func(v mValue)) {
		m.wait(then)
		m.next = kid(k)
	}
	askBool := func(k int, then func(is bool)) {
		ask(k, func(v mValue) {
			if v.Kind != api.VBool {
				m.fail(api.ErrType)
			}
			then(v.Int != 0)
		})
	}
	answerBool := func(is bool) { m.answer(mBool(is)) }
	switch n.Kind {
	case api.NInt:
		m.answer(mInt(n.Int))
	case api.NFloat:
		m.answer(mPlain(api.Value{Kind: api.VFloat, Float: n.Float}))
	case api.NString:
		m.answer(mText(n.Text))
	case api.NName, api.NInherit:
		m.lookUp(n.Text, s)
	case api.NList:
		m.short(len(n.Kids), 256)
		var l []*mThunk
		for _, k := range n.Kids {
			l = append(l, m.node(k, s))
		}
		m.answer(mList(l))
	case api.NSet, api.NRec, api.NLet:
		m.bindings(n, s)
	case api.NSelect, api.NHas:
		ask(0, func(v mValue) {
			t := v.set[n.Text]
			switch {
			case n.Kind == api.NHas:
				answerBool(t != nil)
			case t != nil:
				m.force(t, m.answer)
			case len(n.Kids) > 1:
				m.next = kid(1)
			case v.Kind == api.VSet:
				m.fail(api.ErrAttr)
			default:
				m.fail(api.ErrType)
			}
		})
	case api.NCall:
		ask(0, func(v mValue) {
			if v.Kind != api.VFunc {
				m.fail(api.ErrType)
			}
			v.call(m.node(n.Kids[1], s))
		})
	case api.NLambda:
		m.answer(mValue{Value: api.Value{Kind: api.VFunc}, call: func(x *mThunk) {
			names := maps.Clone(s.names)
			if names == nil {
				names = map[string]*mThunk{}
			}
			names[n.Text] = x
			m.next = func() { m.eval(n.Kids[0], mScope{names, s.withs}) }
		}})
	case api.NWith:
		inner := mScope{s.names, append([]*mThunk{m.node(n.Kids[0], s)}, s.withs...)}
		m.next = func() { m.eval(n.Kids[1], inner) }
	case api.NIf:
		askBool(0, func(is bool) { m.next = kid(map[bool]int{true: 1, false: 2}[is]) })
	case api.NAssert:
		askBool(0, func(is bool) {
			if !is {
				m.fail(api.ErrAssert)
			}
			m.next = kid(1)
		})
	case api.NNot:
		askBool(0, func(is bool) { answerBool(!is) })
	case api.NNeg:
		ask(0, func(v mValue) { m.must(value.Negate(v.Value)) })
	case api.NBinary:
		if n.Text == "&&" || n.Text == "||" {
			askBool(0, func(is bool) {
				if is == (n.Text == "||") {
					answerBool(is)
				} else {
					askBool(1, answerBool)
				}
			})
			return
		}
		ask(0, func(a mValue) { ask(1, func(b mValue) { m.binary(n.Text, a, b) }) })
	}
}

func (m *mModel) bindings(n *api.Node, s mScope) {
	if n.Kind != api.NLet {
		m.short(len(n.Names), 256)
	}
	inner := s
	if n.Kind != api.NSet {
		inner.names = map[string]*mThunk{}
		maps.Copy(inner.names, s.names)
	}
	own := map[string]*mThunk{}
	for i, name := range n.Names {
		in := inner
		if m.nodes[n.Kids[i]].Kind == api.NInherit {
			in = s
		}
		own[name] = m.node(n.Kids[i], in)
	}
	if n.Kind != api.NSet {
		maps.Copy(inner.names, own)
	}
	if n.Kind == api.NLet {
		m.next = func() { m.eval(n.Kids[len(n.Names)], inner) }
		return
	}
	m.answer(mSet(own))
}

func (m *mModel) lookUp(name string, s mScope) {
	if t := s.names[name]; t != nil {
		m.force(t, m.answer)
		return
	}
	if v, is := m.builtin(name); is {
		m.answer(v)
		return
	}
	var from func(l []*mThunk)
	from = func(l []*mThunk) {
		if len(l) == 0 {
			m.fail(api.ErrName)
		}
		m.kind(api.VSet, l[0], func(v mValue) {
			if t := v.set[name]; t != nil {
				m.force(t, m.answer)
			} else {
				from(l[1:])
			}
		})
	}
	from(s.withs)
}

func (m *mModel) binary(sign string, a, b mValue) {
	less := func(a, b mValue) bool { return m.mustHold(value.Less(a.Value, b.Value)) }
	same := func() bool { return m.mustHold(value.Equal(a.Value, b.Value)) }
	switch sign {
	case "==", "!=":
		m.compare([][2]*mThunk{{mKnown(a), mKnown(b)}}, func(is bool) { m.answer(mBool(is == (sign == "=="))) })
	case "<":
		m.answer(mBool(less(a, b)))
	case ">":
		m.answer(mBool(less(b, a)))
	case "<=":
		m.answer(mBool(less(a, b) || same()))
	case ">=":
		m.answer(mBool(less(b, a) || same()))
	case "++":
		if a.Kind != api.VList || b.Kind != api.VList {
			m.fail(api.ErrType)
		}
		m.short(len(a.list)+len(b.list), 256)
		m.answer(mList(slices.Concat(a.list, b.list)))
	case "//":
		if a.Kind != api.VSet || b.Kind != api.VSet {
			m.fail(api.ErrType)
		}
		m.answer(m.over(a.set, b.set))
	default:
		m.must(value.Reckon(sign, a.Value, b.Value))
	}
}

func (m *mModel) over(a, b map[string]*mThunk) mValue {
	all := map[string]*mThunk{}
	maps.Copy(all, a)
	maps.Copy(all, b)
	m.short(len(all), 256)
	return mSet(all)
}

func mNames(set map[string]*mThunk) []string { return slices.Sorted(maps.Keys(set)) }

// compare goes through pairs; the parts of one are put ahead of those that are left.
func (m *mModel) compare(pairs [][2]*mThunk, then func(is bool)) {
	if len(pairs) == 0 {
		then(true)
		return
	}
	p, left := pairs[0], pairs[1:]
	m.step()
	m.force(p[0], func(a mValue) {
		m.force(p[1], func(b mValue) {
			var parts [][2]*mThunk
			is := false
			switch {
			case a.Kind == api.VList && b.Kind == api.VList:
				is = len(a.list) == len(b.list)
				for i := 0; is && i < len(a.list); i++ {
					parts = append(parts, [2]*mThunk{a.list[i], b.list[i]})
				}
			case a.Kind == api.VSet && b.Kind == api.VSet:
				names := mNames(a.set)
				is = slices.Equal(names, mNames(b.set))
				for i := 0; is && i < len(names); i++ {
					parts = append(parts, [2]*mThunk{a.set[names[i]], b.set[names[i]]})
				}
			default:
				is = m.mustHold(value.Equal(a.Value, b.Value))
			}
			if !is {
				then(false)
				return
			}
			m.compare(append(parts, left...), then)
		})
	})
}

// deep tells a thunk within so many lists and sets.
func (m *mModel) deep(t *mThunk, within int, then func(v api.Value)) {
	m.step()
	m.force(t, func(v mValue) {
		told, parts := v.Value, v.list
		for _, name := range mNames(v.set) {
			told.Names, parts = append(told.Names, name), append(parts, v.set[name])
		}
		if (v.Kind == api.VList || v.Kind == api.VSet) && within == 32 {
			m.fail(api.ErrDeep)
		}
		var one func()
		one = func() {
			if len(told.Items) == len(parts) {
				then(told)
				return
			}
			m.deep(parts[len(told.Items)], within+1, func(v api.Value) {
				told.Items = append(told.Items, v)
				one()
			})
		}
		one()
	})
}

func (m *mModel) builtin(name string) (mValue, bool) {
	switch name {
	case "true", "false":
		return mBool(name == "true"), true
	case "null":
		return mValue{}, true
	case "nan":
		return mPlain(api.Value{Kind: api.VFloat, Float: math.NaN()}), true
	case "inf":
		return mPlain(api.Value{Kind: api.VFloat, Float: math.Inf(1)}), true
	}
	wants := map[string]int{"length": 1, "head": 1, "tail": 1, "item": 2, "map": 2, "filter": 2, "fold": 3, "elem": 2, "names": 1, "values": 1, "has": 2, "get": 2, "join": 2, "toString": 1, "toInt": 1, "toFloat": 1, "typeOf": 1, "throw": 1, "seq": 2, "mkIf": 2, "mkOverride": 2, "mkOrder": 2, "mkForce": 1, "mkDefault": 1, "mkMerge": 1, "mkOption": 1}
	if wants[name] == 0 {
		return mValue{}, false
	}
	return m.wanting(name, wants[name], nil), true
}

func (m *mModel) wanting(name string, more int, x []*mThunk) mValue {
	return mValue{Value: api.Value{Kind: api.VFunc}, call: func(t *mThunk) {
		all := append(append([]*mThunk{}, x...), t)
		if more > 1 {
			m.answer(m.wanting(name, more-1, all))
			return
		}
		m.count(nil)
		switch name {
		case "length", "head", "tail", "item", "map", "filter", "fold", "elem", "join":
			m.runList(name, all)
		case "names", "values", "has", "get", "mkOption":
			m.runSet(name, all)
		default:
			m.runAny(name, all)
		}
	}}
}

func (m *mModel) runList(name string, x []*mThunk) {
	last := x[len(x)-1]
	switch name {
	case "length", "head", "tail":
		m.kind(api.VList, last, func(v mValue) {
			switch {
			case name == "length":
				m.answer(mInt(int64(len(v.list))))
			case len(v.list) == 0:
				m.fail(api.ErrEmpty)
			case name == "head":
				m.force(v.list[0], m.answer)
			default:
				m.answer(mList(v.list[1:]))
			}
		})
	case "item":
		m.kind(api.VList, x[0], func(l mValue) {
			m.kind(api.VInt, x[1], func(n mValue) {
				for i, t := range l.list {
					if int64(i) == n.Int {
						m.force(t, m.answer)
						return
					}
				}
				m.fail(api.ErrEmpty)
			})
		})
	case "join":
		m.kind(api.VString, x[0], func(between mValue) {
			m.kind(api.VList, x[1], func(l mValue) {
				m.forceAll(api.VString, l.list, func(vs []mValue) {
					var s strings.Builder
					for i, v := range vs {
						s.WriteString(strings.Repeat(between.Text, min(i, 1)) + v.Text)
					}
					m.short(s.Len(), 1024)
					m.answer(mText(s.String()))
				})
			})
		})
	default:
		m.kind(api.VList, last, func(l mValue) { m.runThrough(name, x, l.list) })
	}
}

// runThrough does what goes through a list.
func (m *mModel) runThrough(name string, x []*mThunk, l []*mThunk) {
	var calls []*mThunk
	for _, t := range l {
		calls = append(calls, m.called(x[0], t))
	}
	switch name {
	case "map":
		m.answer(mList(calls))
	case "filter":
		m.forceAll(api.VBool, calls, func(vs []mValue) {
			var those []*mThunk
			for i, v := range vs {
				if v.Int == 1 {
					those = append(those, l[i])
				}
			}
			m.answer(mList(those))
		})
	case "fold":
		var from func(there *mThunk, l []*mThunk)
		from = func(there *mThunk, l []*mThunk) {
			if len(l) == 0 {
				m.force(there, m.answer)
				return
			}
			there = m.called(m.called(x[0], there), l[0])
			m.force(there, func(mValue) { from(there, l[1:]) })
		}
		from(x[1], l)
	case "elem":
		var from func(l []*mThunk)
		from = func(l []*mThunk) {
			if len(l) == 0 {
				m.answer(mBool(false))
				return
			}
			m.compare([][2]*mThunk{{x[0], l[0]}}, func(is bool) {
				if is {
					m.answer(mBool(true))
				} else {
					from(l[1:])
				}
			})
		}
		from(l)
	}
}

func (m *mModel) runSet(name string, x []*mThunk) {
	switch name {
	case "has", "get":
		m.kind(api.VString, x[0], func(n mValue) {
			m.kind(api.VSet, x[1], func(s mValue) {
				t := s.set[n.Text]
				switch {
				case name == "has":
					m.answer(mBool(t != nil))
				case t == nil:
					m.fail(api.ErrAttr)
				default:
					m.force(t, m.answer)
				}
			})
		})
	default:
		m.kind(api.VSet, x[0], func(s mValue) {
			var names, values []*mThunk
			for _, n := range mNames(s.set) {
				names, values = append(names, mKnown(mText(n))), append(values, s.set[n])
			}
			switch name {
			case "names":
				m.answer(mList(names))
			case "values":
				m.answer(mList(values))
			case "mkOption":
				m.answer(m.over(s.set, map[string]*mThunk{"_is": mKnown(mText("option"))}))
			}
		})
	}
}

func (m *mModel) runAny(name string, x []*mThunk) {
	mark := func(is string, set map[string]*mThunk) {
		set["_is"] = mKnown(mText(is))
		m.answer(mSet(set))
	}
	type set = map[string]*mThunk
	switch name {
	case "mkIf":
		mark("if", set{"when": x[0], "value": x[1]})
	case "mkOverride":
		mark("override", set{"rank": x[0], "value": x[1]})
	case "mkOrder":
		mark("order", set{"rank": x[0], "value": x[1]})
	case "mkForce":
		mark("override", set{"rank": mKnown(mInt(50)), "value": x[0]})
	case "mkDefault":
		mark("override", set{"rank": mKnown(mInt(1000)), "value": x[0]})
	case "mkMerge":
		mark("merge", set{"values": x[0]})
	case "seq":
		m.force(x[0], func(mValue) { m.force(x[1], m.answer) })
	default:
		m.force(x[0], func(v mValue) { m.runPlain(name, v) })
	}
}

func (m *mModel) runPlain(name string, v mValue) {
	switch name {
	case "toString":
		s, e := value.Text(v.Value)
		m.must(mText(s).Value, e)
	case "typeOf":
		m.answer(mText(strings.Fields("null bool int float string list set function")[v.Kind]))
	case "throw":
		if v.Kind == api.VString {
			m.fail(api.ErrThrow)
		}
		m.fail(api.ErrType)
	case "toFloat":
		switch v.Kind {
		case api.VInt:
			x, _ := new(big.Float).SetPrec(53).SetInt64(v.Int).Float64()
			m.answer(mPlain(api.Value{Kind: api.VFloat, Float: x}))
		case api.VFloat:
			m.answer(v)
		default:
			m.fail(api.ErrType)
		}
	case "toInt":
		m.toInt(v)
	}
}

// toInt reckons with numbers that have no bounds.
func (m *mModel) toInt(v mValue) {
	n := new(big.Int)
	switch v.Kind {
	case api.VInt:
		n.SetInt64(v.Int)
	case api.VFloat:
		if math.IsNaN(v.Float) || math.IsInf(v.Float, 0) {
			m.fail(api.ErrOver)
		}
		big.NewFloat(v.Float).Int(n)
	case api.VString:
		digits, minus := strings.CutPrefix(v.Text, "-")
		if digits == "" || strings.Trim(digits, "0123456789") != "" {
			m.fail(api.ErrNumber)
		}
		n.SetString(digits, 10)
		if minus {
			n.Neg(n)
		}
	default:
		m.fail(api.ErrType)
	}
	if !n.IsInt64() {
		m.fail(api.ErrOver)
	}
	m.answer(mInt(n.Int64()))
}
