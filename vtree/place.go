package vtree

import (
	"slices"
	"strings"

	"rehearsal/api"
	"rehearsal/path"
)

// place is where a path ends: the way back to the root from the directory that the last name was looked for in, that name, and the node it leads to (0: nothing). Without a name it is that directory alone.
type place struct {
	dirs  []int
	name  string
	node  int
	slash bool
}

// alone is the place of the last one of some directories, without a name.
func alone(dirs []int) place {
	return place{dirs: dirs, node: dirs[len(dirs)-1]}
}

// dir is the directory that the last name was looked for in.
func (p place) dir() int {
	return p.dirs[len(p.dirs)-1]
}

// walk is a path that is being gone: the place it came to, the names that are left, whether a slash stands at its end, and how many links it went through.
type walk struct {
	store  Store
	at     place
	left   []string
	slash  bool
	follow bool
	hops   int
}

// find goes a path to its place.
func (f *Files) find(p string, follow bool) (place, api.Errno) {
	left, slash, e := path.Parts(p)
	w := walk{store: f.store, at: alone([]int{root}), left: left, slash: slash, follow: follow}
	for e == api.OK && len(w.left) > 0 {
		e = w.step()
	}
	if e == api.OK && w.slash && w.at.node != 0 && !f.isDir(w.at) {
		e = api.NotDir
	}
	if e != api.OK {
		return place{}, e
	}
	w.at.slash = w.slash
	return w.at, api.OK
}

// isDir tells whether a directory is at a place. A store is asked of nodes alone that are there.
func (f *Files) isDir(at place) bool {
	return at.node != 0 && f.store.Kind(at.node) == api.Dir
}

// step looks for the first name that is left, and goes through the link that it leads to, where that is to be.
func (w *walk) step() api.Errno {
	dirs, e := w.enter()
	if e != api.OK {
		return e
	}
	w.at = w.look(dirs, w.left[0])
	w.left = w.left[1:]
	if w.atLink() {
		return w.through()
	}
	return api.OK
}

// enter tells the way back from where a name is to be looked for.
func (w *walk) enter() ([]int, api.Errno) {
	switch {
	case w.at.node == 0:
		return nil, api.NoEntry
	case w.store.Kind(w.at.node) != api.Dir:
		return nil, api.NotDir
	case w.at.name == "":
		return w.at.dirs, api.OK
	}
	// Ways of several places may share memory: what stands behind their ends is not written on.
	dirs := w.at.dirs
	return append(dirs[:len(dirs):len(dirs)], w.at.node), api.OK
}

// look tells the place that a name in the last one of some directories leads to.
func (w *walk) look(dirs []int, name string) place {
	switch name {
	case ".":
		return alone(dirs)
	case "..":
		// The root is in itself.
		n := max(len(dirs)-1, 1)
		return alone(dirs[:n:n])
	}
	p := place{dirs: dirs, name: name}
	p.node = w.store.Entry(p.dir(), name)
	return p
}

// atLink tells whether the path came to a symbolic link that it goes through.
func (w *walk) atLink() bool {
	on := len(w.left) > 0 || w.follow || w.slash
	return on && w.at.node != 0 && w.store.Kind(w.at.node) == api.Sym
}

// through goes through the link that the path came to.
func (w *walk) through() api.Errno {
	w.hops++
	if w.hops > api.MaxHops {
		return api.Loop
	}
	target := w.store.Node(w.at.node).Data
	names := strings.Split(target, "/")
	if slices.ContainsFunc(names, func(s string) bool { return len(s) > api.MaxName }) {
		return api.LongName
	}
	// A link's slash counts only where the path ends with the link.
	w.slash = w.slash || len(w.left) == 0 && strings.HasSuffix(target, "/")
	names = slices.DeleteFunc(names, func(s string) bool { return s == "" })
	w.left = append(names, w.left...)
	dirs := w.at.dirs
	if strings.HasPrefix(target, "/") {
		dirs = dirs[:1:1]
	}
	w.at = alone(dirs)
	return api.OK
}
