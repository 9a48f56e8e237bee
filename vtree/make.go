package vtree

import (
	"strings"

	"rehearsal/api"
)

// free goes a path to a place where nothing is.
func (f *Files) free(p string) (place, api.Errno) {
	at, e := f.find(p, false)
	if e == api.OK && at.node != 0 {
		e = api.Exists
	}
	return at, e
}

// freeName goes a path to a place where nothing is, and something else than a directory may be.
func (f *Files) freeName(p string) (place, api.Errno) {
	at, e := f.free(p)
	if e == api.OK && at.slash {
		e = api.NoEntry
	}
	return at, e
}

// Mkdir makes a directory.
func (f *Files) Mkdir(p string, mode int) api.Errno {
	if f.none() {
		return api.ErrNil
	}
	if !modeMay(mode) {
		return api.ErrArg
	}
	at, e := f.free(p)
	if e != api.OK {
		return e
	}
	return f.create(at, api.Node{Kind: api.Dir, Mode: mode})
}

// Symlink makes a symbolic link.
func (f *Files) Symlink(target, p string) api.Errno {
	if f.none() {
		return api.ErrNil
	}
	at, e := f.freeName(p)
	switch {
	case e != api.OK:
		return e
	case target == "" || strings.IndexByte(target, 0) >= 0:
		return api.Invalid
	case len(target) > api.MaxPath:
		return api.LongName
	}
	return f.create(at, api.Node{Kind: api.Sym, Mode: 0o777, Data: target})
}

// Link gives a file another name.
func (f *Files) Link(from, to string) api.Errno {
	was, e := f.there(from, false)
	switch {
	case e != api.OK:
		return e
	case f.isDir(was):
		return api.Invalid
	}
	at, e := f.freeName(to)
	if e != api.OK {
		return e
	}
	f.tick()
	f.bind(at, was.node)
	return api.OK
}
