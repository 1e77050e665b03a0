package modules

import (
	"slices"
	"strings"

	"bootjack/api"
	"bootjack/eval"
	"bootjack/types"
)

const (
	maxNames   = 8 // of a path
	maxOptions = 64
)

// spot is where in a module's options something stands: the names of its path.
type spot struct {
	module string
	names  []string
}

func (at spot) within(name string) spot {
	return spot{at.module, slices.Concat(at.names, []string{name})}
}

func (at spot) path() string { return strings.Join(at.names, ".") }

func (at spot) fail(e api.Errno) error {
	return &api.Trouble{Module: at.module, Option: at.path(), Err: e}
}

// ownOptions gives those that are there from the beginning.
func (s *System) ownOptions() []option {
	set := api.Value{Kind: api.VSet}
	list := api.Value{Kind: api.VList}
	return []option{
		s.own("asserts", "attrs bool", set),
		s.own("files", "attrs lines", set),
		s.own("services", "attrs unit", set),
		s.own("users", "list string", list),
	}
}

func (s *System) own(path, kind string, preset api.Value) option {
	return option{Option{Path: path, Type: kind, Default: true}, s.machine.Put(preset)}
}

// look finds the options in a thunk, those in sets within it, too.
func (s *System) look(at spot, t *eval.Thunk) error {
	if err := s.machine.Step(); err != nil {
		return err
	}
	set, err := s.machine.Force(t)
	if err != nil {
		return err
	}
	if set.Kind != api.VSet || len(at.names) > maxNames {
		return at.fail(api.ErrModule)
	}
	if mark := part(set, "_is"); mark != nil {
		return s.lookAtMarked(at, mark, set)
	}
	for i, name := range set.Names {
		inner := at.within(name)
		if !isOptionName(name) {
			return inner.fail(api.ErrModule)
		}
		if err := s.look(inner, set.Items[i]); err != nil {
			return err
		}
	}
	return nil
}

// isOptionName refuses a `.`, among others: that stands between names.
func isOptionName(s string) bool {
	return s != "" && !slices.ContainsFunc([]byte(s), isForeign)
}

func isForeign(c byte) bool {
	isLetter := c >= 'a' && c <= 'z' || c >= 'A' && c <= 'Z'
	isDigit := c >= '0' && c <= '9'
	return !isLetter && !isDigit && c != '_' && c != '-'
}

func (s *System) lookAtMarked(at spot, mark *eval.Thunk, set eval.Shape) error {
	x, err := s.machine.Force(mark)
	if err != nil {
		return err
	}
	if x.Kind != api.VString || x.Text != "option" || len(at.names) == 0 {
		return at.fail(api.ErrModule)
	}
	kind, err := s.typeOf(at, set)
	if err != nil {
		return err
	}
	return s.declare(at, kind, part(set, "default"))
}

func (s *System) typeOf(at spot, set eval.Shape) (string, error) {
	t := part(set, "type")
	if t == nil {
		return "", at.fail(api.ErrModule)
	}
	x, err := s.machine.Force(t)
	if err != nil {
		return "", err
	}
	if x.Kind != api.VString || !types.Right(x.Text) {
		return "", at.fail(api.ErrModule)
	}
	return x.Text, nil
}

func (s *System) declare(at spot, kind string, preset *eval.Thunk) error {
	path := at.path()
	for _, o := range s.options {
		if isBeginning(o.Path, path) || isBeginning(path, o.Path) {
			return at.fail(api.ErrDeclared)
		}
	}
	if len(s.options) == maxOptions {
		return at.fail(api.ErrMany)
	}
	s.options = append(s.options, option{Option{path, kind, at.module, preset != nil}, preset})
	return nil
}

// isBeginning goes by whole names, and takes a path as its own beginning.
func isBeginning(short, long string) bool {
	return short == long || strings.HasPrefix(long, short+".")
}
