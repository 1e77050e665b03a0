package eval

import (
	"math"
	"slices"
	"strconv"
	"strings"

	"bootjack/api"
	"bootjack/value"
)

// join asks how long all is when all is known: a part that is no text counts
// more.
func (m *Machine) join(x []*Thunk) *found {
	between := m.forceTo(api.VString, x[0]).Text
	var l []string
	for _, t := range m.itemsOf(x[1]) {
		l = append(l, m.forceTo(api.VString, t).Text)
	}
	s := strings.Join(l, between)
	m.atMost(api.MaxString, len(s))
	return ofText(s)
}

func (m *Machine) toString(x []*Thunk) *found {
	s, e := value.Text(m.force(x[0]).value())
	m.must(e)
	return ofText(s)
}

func (m *Machine) toInt(x []*Thunk) *found {
	f := m.force(x[0])
	switch f.Kind {
	case api.VInt:
		return f
	case api.VFloat:
		return m.cut(f.Float)
	case api.VString:
		return m.read(f.Text)
	}
	return m.giveUp(api.ErrType)
}

// cut asks whether it fits, not whether it does not: of NaN neither holds.
func (m *Machine) cut(x float64) *found {
	x = math.Trunc(x)
	if x >= -1<<63 && x < 1<<63 {
		return ofInt(int64(x))
	}
	return m.giveUp(api.ErrOver)
}

// read asks the digits first: the library takes a `+` ahead of them, too.
func (m *Machine) read(s string) *found {
	digits := strings.TrimPrefix(s, "-")
	if digits == "" || slices.ContainsFunc([]byte(digits), isNoDigit) {
		return m.giveUp(api.ErrNumber)
	}
	n, err := strconv.ParseInt(s, 10, 64)
	if err != nil {
		return m.giveUp(api.ErrOver)
	}
	return ofInt(n)
}

func isNoDigit(c byte) bool { return c < '0' || c > '9' }

func (m *Machine) toFloat(x []*Thunk) *found {
	f := m.force(x[0])
	if f.Kind == api.VInt {
		return ofFloat(float64(f.Int))
	}
	return m.of(api.VFloat, f)
}

func (m *Machine) typeOf(x []*Thunk) *found {
	words := [...]string{
		api.VNull:   "null",
		api.VBool:   "bool",
		api.VInt:    "int",
		api.VFloat:  "float",
		api.VString: "string",
		api.VList:   "list",
		api.VSet:    "set",
		api.VFunc:   "function",
	}
	return ofText(words[m.force(x[0]).Kind])
}

func (m *Machine) throw(x []*Thunk) *found {
	m.forceTo(api.VString, x[0])
	return m.giveUp(api.ErrThrow)
}

func (m *Machine) seq(x []*Thunk) *found {
	m.force(x[0])
	return m.force(x[1])
}
