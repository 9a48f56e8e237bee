// Package acts makes calls of all kinds on file systems: tests of the layers above vtree go through them, so that no kind is left out.
package acts

import (
	"strconv"
	"strings"

	"rehearsal/api"
	"rehearsal/vtree"
)

// Act is a call and what it is given: a path, another path or text, a number.
type Act struct {
	Call string
	P, Q string
	N    int
}

// String tells the call as it is written.
func (a Act) String() string {
	return a.Call + "(" + strconv.Quote(a.P) + ", " + strconv.Quote(a.Q) + ", " + strconv.Itoa(a.N) + ")"
}

// Do makes the call, and tells all that it answered.
func (a Act) Do(f *vtree.Files) string {
	switch a.Call {
	case "Stat":
		i, e := f.Stat(a.P, a.N != 0)
		return told(e, numbers(i.Kind, i.Mode, i.Owner, i.Time, i.Size, i.Links)...)
	case "Read":
		s, e := f.Read(a.P)
		return told(e, s)
	case "Target":
		s, e := f.Target(a.P)
		return told(e, s)
	case "List":
		l, e := f.List(a.P)
		return told(e, l...)
	}
	return told(a.change(f))
}

// change makes a call that tells nothing but its error.
func (a Act) change(f *vtree.Files) api.Errno {
	switch a.Call {
	case "Write":
		return f.Write(a.P, a.Q, a.N)
	case "Mkdir":
		return f.Mkdir(a.P, a.N)
	case "Symlink":
		return f.Symlink(a.Q, a.P)
	case "Link":
		return f.Link(a.P, a.Q)
	case "Rmdir":
		return f.Rmdir(a.P)
	case "Unlink":
		return f.Unlink(a.P)
	case "Rename":
		return f.Rename(a.P, a.Q)
	case "Chmod":
		return f.Chmod(a.P, a.N)
	case "Touch":
		return f.Touch(a.P)
	}
	return api.ErrNone
}

// told is one text of an error and an answer.
func told(e api.Errno, l ...string) string {
	return strings.Join(append([]string{strconv.Itoa(int(e))}, l...), " / ")
}

// numbers are numbers as texts.
func numbers(l ...int) []string {
	var out []string
	for _, n := range l {
		out = append(out, strconv.Itoa(n))
	}
	return out
}

// On are acts of all kinds on some paths.
func On(paths []string) []Act {
	var l []Act
	for _, p := range paths {
		l = append(l, alone(p)...)
		for _, q := range paths {
			l = append(l, Act{"Link", p, q, 0}, Act{"Rename", p, q, 0})
		}
	}
	return l
}

// alone are acts of all kinds on one path.
func alone(p string) []Act {
	l := []Act{{"Stat", p, "", 1}}
	for _, call := range []string{"Stat", "Read", "Target", "List", "Rmdir", "Unlink", "Touch"} {
		l = append(l, Act{call, p, "", 0})
	}
	for _, mode := range []int{0, 0o700, 0o1000} {
		l = append(l, Act{"Mkdir", p, "", mode}, Act{"Chmod", p, "", mode})
	}
	for _, data := range []string{"", "x", "12345678"} {
		for how := api.Truncate; how <= api.Exclusive; how++ {
			l = append(l, Act{"Write", p, data, how})
		}
	}
	for _, target := range []string{"", "d", "/", "../f", "/e/", "l"} {
		l = append(l, Act{"Symlink", p, target, 0})
	}
	return l
}

// Some are n acts on some paths, chosen by a seed alone, of each call about as many.
func Some(paths []string, seed uint64, n int) []Act {
	of := map[string][]Act{}
	var calls []string
	for _, a := range On(paths) {
		if len(of[a.Call]) == 0 {
			calls = append(calls, a.Call)
		}
		of[a.Call] = append(of[a.Call], a)
	}
	next := func(most int) int {
		seed = seed*6364136223846793005 + 1442695040888963407
		return int(seed>>33) % most
	}
	var l []Act
	for len(l) < n && len(calls) > 0 {
		some := of[calls[next(len(calls))]]
		l = append(l, some[next(len(some))])
	}
	return l
}

// Paths are paths of many kinds, for Tree.
func Paths() []string {
	return []string{
		"", "x", "/", "/.", "/..", "/d", "/d/", "/d/.", "/d/..", "/d/d", "/d/d/", "/d/d/g", "/d/f", "/f", "/f/", "/f/x",
		"/e", "/e/", "/e/x", "/e/x/", "/e/x/y", "/l", "/l/", "/l/f", "/l/l", "/l/u/g", "/l/../f", "/d/l", "/d/l/", "/d/u", "/d/u/x",
		"/n", "/n/", "/n/x", "/none", "/none/x", "/r", "/r/", "/r/f", "/s", "/s/x", "/x", "/x/", "/d/x", "/d/d/x", "/d\x00",
	}
}

// Near are few paths, for long runs: calls on them meet one another's nodes.
func Near() []string {
	return []string{
		"/", "/d", "/d/", "/d/d", "/d/d/d", "/d/..", "/e", "/e/", "/d/e", "/e/d", "/f", "/f/", "/d/f", "/d/d/f", "/e/f", "/l", "/l/", "/d/l", "/l/f", "/e/l", "/x",
	}
}

// Tree is a tree with nodes of all kinds: files and links under several names, directories in one another, links to all kinds of ends; numbers are left out.
func Tree(room api.Room) api.Tree {
	dir := func(id int, l ...api.Entry) api.Node {
		return api.Node{ID: id, Kind: api.Dir, Mode: 0o755, Entries: l}
	}
	leaf := func(id, kind, mode int, data string) api.Node {
		return api.Node{ID: id, Kind: kind, Mode: mode, Data: data}
	}
	to := func(name string, id int) api.Entry { return api.Entry{Name: name, Node: id} }
	t := api.Tree{Last: 20, Room: room, Nodes: []api.Node{
		dir(1, to("d", 3), to("e", 8), to("f", 7), to("l", 9), to("n", 12), to("r", 13), to("s", 14)),
		dir(3, to("d", 4), to("f", 7), to("l", 10), to("u", 11)),
		dir(4, to("g", 5)),
		leaf(5, api.File, 0o644, "five"),
		leaf(7, api.File, 0o600, "hi\x00"),
		dir(8),
		leaf(9, api.Sym, 0o777, "d"),
		leaf(10, api.Sym, 0o777, "../f"),
		leaf(11, api.Sym, 0o777, "/d/d/"),
		leaf(12, api.Sym, 0o777, "none"),
		leaf(13, api.Sym, 0o777, "/"),
		leaf(14, api.Sym, 0o777, "s"),
	}}
	t.Nodes[4].Owner, t.Nodes[4].Time, t.Nodes[5].Time = 65535, api.MaxTime, 7
	return t
}
