package activate

import (
	"bytes"
	"slices"

	"bootjack/api"
	"bootjack/machine"
)

// mayBe tells whether a unit may be, which is the machine's to say: a new one
// starts it, if it may. What the unit requires is told among what it stands
// after, since of these names the machine asks the same, but not that they run.
func mayBe(u api.Unit) bool {
	u.Requires, u.After = nil, slices.Concat(u.Requires, u.After)
	return machine.New().Do(api.Act{Kind: api.StepStart, Name: u.Name, Unit: u}) == api.OK
}

func sameUnit(a, b api.Unit) bool {
	return a.Name == b.Name && a.Start == b.Start && slices.Equal(a.Requires, b.Requires) && slices.Equal(a.After, b.After)
}

// sameFile takes data that are nil as any other empty ones.
func sameFile(a, b api.Entry) bool {
	return a.Path == b.Path && a.Kind == b.Kind && bytes.Equal(a.Data, b.Data)
}

func copiedUnit(u api.Unit) api.Unit {
	u.Requires, u.After = slices.Clone(u.Requires), slices.Clone(u.After)
	return u
}

func copiedFile(f api.Entry) api.Entry {
	f.Data = bytes.Clone(f.Data)
	return f
}
