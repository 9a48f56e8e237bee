package vtree

import "rehearsal/api"

// Write writes a file.
func (f *Files) Write(p, data string, how int) api.Errno {
	if f.none() {
		return api.ErrNil
	}
	if how < api.Truncate || how > api.Exclusive {
		return api.ErrArg
	}
	at, e := f.find(p, how != api.Exclusive)
	switch {
	case e != api.OK:
		return e
	case at.node != 0 && how == api.Exclusive:
		return api.Exists
	case at.node == 0 && at.slash || f.isDir(at):
		return api.IsDir
	case at.node != 0:
		return f.rewrite(at.node, data, how)
	case len(data) > api.MaxData:
		return api.NoSpace
	}
	return f.create(at, api.Node{Kind: api.File, Mode: 0o644, Data: data})
}

// rewrite gives a file other data, or more.
func (f *Files) rewrite(id int, data string, how int) api.Errno {
	n := f.store.Node(id)
	kept := ""
	if how == api.Append {
		kept = n.Data
	}
	size := len(kept) + len(data)
	if size > api.MaxData || !f.bytesFit(size-len(n.Data)) {
		return api.NoSpace
	}
	f.tick()
	n.Data = kept + data
	n.Time = f.clock
	f.store.Put(n)
	return api.OK
}

// Chmod gives a node another mode.
func (f *Files) Chmod(p string, mode int) api.Errno {
	if f.none() {
		return api.ErrNil
	}
	if !modeMay(mode) {
		return api.ErrArg
	}
	at, e := f.there(p, true)
	if e != api.OK {
		return e
	}
	f.tick()
	n := f.store.Node(at.node)
	n.Mode = mode
	f.store.Put(n)
	return api.OK
}

// Touch gives a node the time of now.
func (f *Files) Touch(p string) api.Errno {
	at, e := f.there(p, true)
	if e != api.OK {
		return e
	}
	f.tick()
	f.stamp(at.node)
	return api.OK
}
