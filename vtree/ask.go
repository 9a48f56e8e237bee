package vtree

import (
	"slices"

	"rehearsal/api"
)

// there goes a path to a place where something is.
func (f *Files) there(p string, follow bool) (place, api.Errno) {
	if f.none() {
		return place{}, api.ErrNil
	}
	at, e := f.find(p, follow)
	if e == api.OK && at.node == 0 {
		e = api.NoEntry
	}
	if e != api.OK {
		return place{}, e
	}
	return at, api.OK
}

// Stat tells what a node is.
func (f *Files) Stat(p string, follow bool) (api.Info, api.Errno) {
	at, e := f.there(p, follow)
	if e != api.OK {
		return api.Info{}, e
	}
	n := f.store.Node(at.node)
	return api.Info{
		Kind:  n.Kind,
		Mode:  n.Mode,
		Owner: n.Owner,
		Time:  n.Time,
		Size:  len(n.Data),
		Links: f.store.Links(at.node),
	}, api.OK
}

// Read tells what a file has.
func (f *Files) Read(p string) (string, api.Errno) {
	at, e := f.there(p, true)
	switch {
	case e != api.OK:
		return "", e
	case f.isDir(at):
		return "", api.IsDir
	}
	return f.store.Node(at.node).Data, api.OK
}

// Target tells where a symbolic link leads.
func (f *Files) Target(p string) (string, api.Errno) {
	at, e := f.there(p, false)
	switch {
	case e != api.OK:
		return "", e
	case f.store.Kind(at.node) != api.Sym:
		return "", api.Invalid
	}
	return f.store.Node(at.node).Data, api.OK
}

// List tells the names in a directory.
func (f *Files) List(p string) ([]string, api.Errno) {
	at, e := f.there(p, true)
	switch {
	case e != api.OK:
		return nil, e
	case !f.isDir(at):
		return nil, api.NotDir
	}
	var names []string
	for _, x := range f.store.Entries(at.node) {
		names = append(names, x.Name)
	}
	// A store need not have them in order.
	slices.Sort(names)
	return names, api.OK
}
