package config

import (
	"slices"
	"strings"

	"bootjack/api"
	"bootjack/units"
)

// holdAsserts refuses a configuration that says of itself that it may not be.
func (e *evaluator) holdAsserts() error {
	asserts := e.setting("asserts")
	for i, name := range asserts.Names {
		if asserts.Items[i].Int == 0 {
			return ofOption("asserts."+name, api.ErrAssert)
		}
	}
	return nil
}

func (e *evaluator) takeFiles() error {
	files := e.setting("files")
	if len(files.Names) > api.MaxFiles {
		return ofOption("files", api.ErrMany)
	}
	for i, name := range files.Names {
		if !isFileName(name) || isDirectory(name, files.Names) {
			return ofOption("files."+name, api.ErrPath)
		}
		e.meaning.Files = append(e.meaning.Files, api.Pair{Name: name, Text: files.Items[i].Text})
	}
	return nil
}

// isDirectory tells whether another file stands within what has this name.
func isDirectory(name string, all []string) bool {
	return slices.ContainsFunc(all, func(other string) bool { return strings.HasPrefix(other, name+"/") })
}

func (e *evaluator) takeUsers() error {
	users := textsOf(e.setting("users"))
	if slices.ContainsFunc(users, isNoUserName) {
		return ofOption("users", api.ErrPath)
	}
	slices.Sort(users)
	users = slices.Compact(users)
	if len(users) > api.MaxUsers {
		return ofOption("users", api.ErrMany)
	}
	e.meaning.Users = users
	return nil
}

func textsOf(list api.Value) []string {
	var l []string
	for _, item := range list.Items {
		l = append(l, item.Text)
	}
	return l
}

func (e *evaluator) takeUnits() error {
	services := e.setting("services")
	if len(services.Names) > api.MaxUnits {
		return ofOption("services", api.ErrMany)
	}
	var l []api.Unit
	for i, name := range services.Names {
		if isNoUserName(name) {
			return ofOption("services."+name, api.ErrPath)
		}
		l = append(l, unitOf(name, services.Items[i]))
	}
	l, name, failed := units.Order(l)
	if failed != api.OK {
		return ofOption("services."+name, failed)
	}
	e.meaning.Units = l
	return nil
}

// unitOf takes a service's set, which has all its names since it was merged.
func unitOf(name string, set api.Value) api.Unit {
	u := api.Unit{Name: name}
	for i, field := range set.Names {
		switch item := set.Items[i]; field {
		case "start":
			u.Start = item.Text
		case "requires":
			u.Requires = textsOf(item)
		case "after":
			u.After = textsOf(item)
		}
	}
	return u
}
