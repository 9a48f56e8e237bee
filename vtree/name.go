package vtree

import (
	"slices"

	"rehearsal/api"
)

// named goes a path to a place that has a name.
func (f *Files) named(p string) (place, api.Errno) {
	at, e := f.find(p, false)
	if e == api.OK && at.name == "" {
		e = api.Invalid
	}
	return at, e
}

// namedThere goes a path to a place that has a name, where something is.
func (f *Files) namedThere(p string) (place, api.Errno) {
	if f.none() {
		return place{}, api.ErrNil
	}
	at, e := f.named(p)
	if e == api.OK && at.node == 0 {
		e = api.NoEntry
	}
	return at, e
}

// remove lets the name of a place lead to nothing.
func (f *Files) remove(at place) {
	f.tick()
	f.bind(at, 0)
	f.forget(at.node)
}

// Rmdir takes an empty directory away.
func (f *Files) Rmdir(p string) api.Errno {
	at, e := f.namedThere(p)
	switch {
	case e != api.OK:
		return e
	case !f.isDir(at):
		return api.NotDir
	case len(f.store.Entries(at.node)) > 0:
		return api.NotEmpty
	}
	f.remove(at)
	return api.OK
}

// Unlink takes a name of a file away.
func (f *Files) Unlink(p string) api.Errno {
	at, e := f.namedThere(p)
	switch {
	case e != api.OK:
		return e
	case f.isDir(at):
		return api.IsDir
	}
	f.remove(at)
	return api.OK
}

// Rename lets another name lead to a node.
func (f *Files) Rename(from, to string) api.Errno {
	a, e := f.namedThere(from)
	if e != api.OK {
		return e
	}
	b, e := f.named(to)
	switch {
	case e != api.OK:
		return e
	case a.node == b.node:
		return api.OK
	}
	if e := f.refuse(a, b); e != api.OK {
		return e
	}
	f.tick()
	f.bind(a, 0)
	f.bind(b, a.node)
	if b.node != 0 {
		f.forget(b.node)
	}
	return api.OK
}

// refuse tells why what is at one place may not come to another one.
func (f *Files) refuse(a, b place) api.Errno {
	dir, onto := f.isDir(a), f.isDir(b)
	switch {
	case slices.Contains(b.dirs, a.node):
		return api.Invalid
	case dir && b.node != 0 && !onto, !dir && b.slash && !onto:
		return api.NotDir
	case onto && !dir:
		return api.IsDir
	case onto && len(f.store.Entries(b.node)) > 0:
		return api.NotEmpty
	}
	return api.OK
}
