package vtree

import "rehearsal/api"

// maxMode is the greatest mode that a node may have.
const maxMode = 0o777

// modeMay tells whether a node may have a mode.
func modeMay(mode int) bool {
	return mode >= 0 && mode <= maxMode
}

// tick sets the clock to now.
func (f *Files) tick() {
	f.clock = min(f.clock+1, api.MaxTime)
}

// stamp gives a node the time of the clock.
func (f *Files) stamp(id int) {
	n := f.store.Node(id)
	n.Time = f.clock
	f.store.Put(n)
}

// bind lets the name of a place lead to a node, or to none.
func (f *Files) bind(at place, id int) {
	f.store.Bind(at.dir(), at.name, id)
	f.stamp(at.dir())
}

// forget takes a node away that no name leads to any more.
func (f *Files) forget(id int) {
	if f.store.Links(id) == 0 {
		f.store.Drop(id)
	}
}

// nodeFits tells whether there is room for a node more.
func (f *Files) nodeFits() bool {
	nodes, _ := f.store.Usage()
	return nodes < f.store.Room().Nodes && nodes < api.MaxNodes
}

// bytesFit tells whether there is room for some bytes more. No more bytes need none, even where there are too many already.
func (f *Files) bytesFit(more int) bool {
	if more <= 0 {
		return true
	}
	_, bytes := f.store.Usage()
	room := f.store.Room().Bytes
	// So the greatest and the least room there is can be reckoned with.
	return bytes <= room && more <= room-bytes
}

// create makes a node at a place.
func (f *Files) create(at place, n api.Node) api.Errno {
	if !f.nodeFits() || !f.bytesFit(len(n.Data)) {
		return api.NoSpace
	}
	f.tick()
	n.ID = f.store.Fresh()
	n.Time = f.clock
	f.store.Put(n)
	f.bind(at, n.ID)
	return api.OK
}
