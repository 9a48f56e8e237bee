package vtree

import (
	"fmt"
	"maps"
	"slices"
	"strings"
	"testing"

	"rehearsal/api"
	"rehearsal/path"
	"rehearsal/tree"
)

// calls are those of Files: the model has them, too.
type calls interface {
	Stat(p string, follow bool) (api.Info, api.Errno)
	Read(p string) (string, api.Errno)
	Target(p string) (string, api.Errno)
	List(p string) ([]string, api.Errno)
	Write(p, data string, how int) api.Errno
	Mkdir(p string, mode int) api.Errno
	Symlink(target, p string) api.Errno
	Link(from, to string) api.Errno
	Rmdir(p string) api.Errno
	Unlink(p string) api.Errno
	Rename(from, to string) api.Errno
	Chmod(p string, mode int) api.Errno
	Touch(p string) api.Errno
	Clock() int
}

// thing is a node of the model: directories have things, not numbers, and know the one that they are in.
type thing struct {
	node api.Node
	kids map[string]*thing
	up   *thing
}

// model is a file system by the document's words: paths are gone as texts, and what no way leads to is not there.
type model struct {
	root  *thing
	last  int
	room  api.Room
	clock int
}

// modelOf is a model of a tree that may be.
func modelOf(t api.Tree, clock int) *model {
	l := map[int]*thing{}
	for _, n := range t.Nodes {
		n.Entries = nil
		l[n.ID] = &thing{node: n, kids: map[string]*thing{}}
	}
	for _, n := range t.Nodes {
		for _, x := range n.Entries {
			l[n.ID].kids[x.Name] = l[x.Node]
			l[x.Node].up = l[n.ID]
		}
	}
	l[1].up = l[1]
	return &model{root: l[1], last: t.Last, room: t.Room, clock: clock}
}

// all are the things that a way leads to, by their numbers.
func (m *model) all() map[int]*thing {
	met := map[int]*thing{}
	var meet func(x *thing)
	meet = func(x *thing) {
		met[x.node.ID] = x
		for _, kid := range x.kids {
			meet(kid)
		}
	}
	meet(m.root)
	return met
}

func (m *model) tree() api.Tree {
	all := m.all()
	t := api.Tree{Last: m.last, Room: m.room}
	for _, id := range slices.Sorted(maps.Keys(all)) {
		n := all[id].node
		for _, name := range slices.Sorted(maps.Keys(all[id].kids)) {
			n.Entries = append(n.Entries, api.Entry{Name: name, Node: all[id].kids[name].node.ID})
		}
		t.Nodes = append(t.Nodes, n)
	}
	return t
}

// spot is a place of the model.
type spot struct {
	dir   *thing
	name  string
	at    *thing
	slash bool
}

func (s spot) is(kind int) bool { return s.at != nil && s.at.node.Kind == kind }

func (m *model) find(p string, follow bool) (spot, api.Errno) {
	if _, _, e := path.Parts(p); e != api.OK {
		return spot{}, e
	}
	here, rest, hops := spot{dir: m.root, at: m.root}, p, 0
	for strings.Trim(rest, "/") != "" {
		where := here.at
		if where == nil {
			return spot{}, api.NoEntry
		}
		if where.node.Kind != api.Dir {
			return spot{}, api.NotDir
		}
		rest = strings.TrimLeft(rest, "/")
		name := rest
		if i := strings.IndexByte(rest, '/'); i >= 0 {
			name = rest[:i]
		}
		rest = rest[len(name):]
		switch name {
		case ".":
			here = spot{dir: where, at: where}
		case "..":
			here = spot{dir: where.up, at: where.up}
		default:
			here = spot{dir: where, name: name, at: where.kids[name]}
		}
		// What is left is empty just if neither a name nor a slash at the end is there.
		if !here.is(api.Sym) || rest == "" && !follow {
			continue
		}
		if hops++; hops == 9 {
			return spot{}, api.Loop
		}
		target := here.at.node.Data
		for _, s := range strings.Split(target, "/") {
			if len(s) > 64 {
				return spot{}, api.LongName
			}
		}
		here = spot{dir: where, at: where}
		if target[0] == '/' {
			here = spot{dir: m.root, at: m.root}
		}
		rest = target + rest
	}
	here.slash = rest != ""
	if here.slash && here.at != nil && !here.is(api.Dir) {
		return spot{}, api.NotDir
	}
	return here, api.OK
}

// usage is how many nodes and bytes there are.
func (m *model) usage() (nodes, bytes int) {
	for _, x := range m.all() {
		nodes, bytes = nodes+1, bytes+len(x.node.Data)
	}
	return
}

func (m *model) now() int {
	if m.clock < 1<<40 {
		m.clock++
	}
	return m.clock
}

func (m *model) make(s spot, kind, mode int, data string) api.Errno {
	nodes, bytes := m.usage()
	if nodes+1 > m.room.Nodes || nodes+1 > 512 || data != "" && bytes+len(data) > m.room.Bytes {
		return api.NoSpace
	}
	m.last++
	now := m.now()
	x := &thing{node: api.Node{ID: m.last, Kind: kind, Mode: mode, Time: now, Data: data}, kids: map[string]*thing{}, up: s.dir}
	s.dir.kids[s.name] = x
	s.dir.node.Time = now
	return api.OK
}

// there is a path's spot, at which something is.
func (m *model) there(p string, follow bool) (spot, api.Errno) {
	s, e := m.find(p, follow)
	if e != api.OK {
		return spot{}, e
	}
	if s.at == nil {
		return spot{}, api.NoEntry
	}
	return s, api.OK
}

func (m *model) Clock() int { return m.clock }

func (m *model) Stat(p string, follow bool) (api.Info, api.Errno) {
	s, e := m.there(p, follow)
	if e != api.OK {
		return api.Info{}, e
	}
	links := 0
	for _, x := range m.all() {
		for _, kid := range x.kids {
			if kid == s.at {
				links++
			}
		}
	}
	n := s.at.node
	return api.Info{Kind: n.Kind, Mode: n.Mode, Owner: n.Owner, Time: n.Time, Size: len(n.Data), Links: links}, api.OK
}

func (m *model) Read(p string) (string, api.Errno) {
	s, e := m.there(p, true)
	if e != api.OK {
		return "", e
	}
	if s.is(api.Dir) {
		return "", api.IsDir
	}
	return s.at.node.Data, api.OK
}

func (m *model) Target(p string) (string, api.Errno) {
	s, e := m.there(p, false)
	if e != api.OK {
		return "", e
	}
	if !s.is(api.Sym) {
		return "", api.Invalid
	}
	return s.at.node.Data, api.OK
}

func (m *model) List(p string) ([]string, api.Errno) {
	s, e := m.there(p, true)
	if e != api.OK {
		return nil, e
	}
	if !s.is(api.Dir) {
		return nil, api.NotDir
	}
	return slices.Sorted(maps.Keys(s.at.kids)), api.OK
}

func (m *model) Write(p, data string, how int) api.Errno {
	if how != 1 && how != 2 && how != 3 {
		return api.ErrArg
	}
	s, e := m.find(p, how != 3)
	if e != api.OK {
		return e
	}
	if s.at != nil && how == 3 {
		return api.Exists
	}
	if s.is(api.Dir) || s.at == nil && s.slash {
		return api.IsDir
	}
	if s.at == nil {
		if len(data) > 4096 {
			return api.NoSpace
		}
		return m.make(s, api.File, 0o644, data)
	}
	was := s.at.node.Data
	if how == 2 {
		data = was + data
	}
	_, bytes := m.usage()
	if len(data) > 4096 || len(data) > len(was) && bytes-len(was)+len(data) > m.room.Bytes {
		return api.NoSpace
	}
	s.at.node.Data, s.at.node.Time = data, m.now()
	return api.OK
}

func (m *model) Mkdir(p string, mode int) api.Errno {
	if mode < 0 || mode > 511 {
		return api.ErrArg
	}
	s, e := m.find(p, false)
	if e != api.OK {
		return e
	}
	if s.at != nil {
		return api.Exists
	}
	return m.make(s, api.Dir, mode, "")
}

func (m *model) Symlink(target, p string) api.Errno {
	s, e := m.find(p, false)
	if e != api.OK {
		return e
	}
	if s.at != nil {
		return api.Exists
	}
	if s.slash {
		return api.NoEntry
	}
	if target == "" || strings.Contains(target, "\x00") {
		return api.Invalid
	}
	if len(target) > 256 {
		return api.LongName
	}
	return m.make(s, api.Sym, 511, target)
}

func (m *model) Link(from, to string) api.Errno {
	a, e := m.there(from, false)
	if e != api.OK {
		return e
	}
	if a.is(api.Dir) {
		return api.Invalid
	}
	b, e := m.find(to, false)
	if e != api.OK {
		return e
	}
	if b.at != nil {
		return api.Exists
	}
	if b.slash {
		return api.NoEntry
	}
	b.dir.kids[b.name] = a.at
	b.dir.node.Time = m.now()
	return api.OK
}

// named is a path's spot, with a name.
func (m *model) named(p string) (spot, api.Errno) {
	s, e := m.find(p, false)
	if e != api.OK {
		return spot{}, e
	}
	if s.name == "" {
		return spot{}, api.Invalid
	}
	return s, api.OK
}

func (m *model) Rmdir(p string) api.Errno {
	s, e := m.named(p)
	if e != api.OK {
		return e
	}
	if s.at == nil {
		return api.NoEntry
	}
	if !s.is(api.Dir) {
		return api.NotDir
	}
	if len(s.at.kids) > 0 {
		return api.NotEmpty
	}
	delete(s.dir.kids, s.name)
	s.dir.node.Time = m.now()
	return api.OK
}

func (m *model) Unlink(p string) api.Errno {
	s, e := m.named(p)
	if e != api.OK {
		return e
	}
	if s.at == nil {
		return api.NoEntry
	}
	if s.is(api.Dir) {
		return api.IsDir
	}
	delete(s.dir.kids, s.name)
	s.dir.node.Time = m.now()
	return api.OK
}

// holds tells whether a directory is another one, or in it, or in one that is.
func (m *model) holds(x, dir *thing) bool {
	for ; dir != m.root; dir = dir.up {
		if dir == x {
			return true
		}
	}
	return x == m.root
}

func (m *model) Rename(from, to string) api.Errno {
	a, e := m.named(from)
	if e != api.OK {
		return e
	}
	if a.at == nil {
		return api.NoEntry
	}
	b, e := m.named(to)
	if e != api.OK {
		return e
	}
	if a.at == b.at {
		return api.OK
	}
	if a.is(api.Dir) && m.holds(a.at, b.dir) {
		return api.Invalid
	}
	if a.is(api.Dir) && b.at != nil && !b.is(api.Dir) || !a.is(api.Dir) && b.slash && !b.is(api.Dir) {
		return api.NotDir
	}
	if b.is(api.Dir) && !a.is(api.Dir) {
		return api.IsDir
	}
	if b.is(api.Dir) && len(b.at.kids) > 0 {
		return api.NotEmpty
	}
	delete(a.dir.kids, a.name)
	b.dir.kids[b.name] = a.at
	if a.is(api.Dir) {
		a.at.up = b.dir
	}
	now := m.now()
	a.dir.node.Time, b.dir.node.Time = now, now
	return api.OK
}

func (m *model) Chmod(p string, mode int) api.Errno {
	if mode < 0 || mode > 511 {
		return api.ErrArg
	}
	s, e := m.there(p, true)
	if e == api.OK {
		s.at.node.Mode = mode
		m.now()
	}
	return e
}

func (m *model) Touch(p string) api.Errno {
	s, e := m.there(p, true)
	if e == api.OK {
		s.at.node.Time = m.now()
	}
	return e
}

// act is a call and what it is given.
type act struct {
	call string
	a, b string
	n    int
}

// do makes the call: what it told, and its error.
func (x act) do(c calls) (any, api.Errno) {
	switch x.call {
	case "Stat":
		return two(c.Stat(x.a, x.n != 0))
	case "Read":
		return two(c.Read(x.a))
	case "Target":
		return two(c.Target(x.a))
	case "List":
		l, e := c.List(x.a)
		return strings.Join(l, " / "), e
	case "Write":
		return "", c.Write(x.a, x.b, x.n)
	case "Mkdir":
		return "", c.Mkdir(x.a, x.n)
	case "Symlink":
		return "", c.Symlink(x.a, x.b)
	case "Link":
		return "", c.Link(x.a, x.b)
	case "Rmdir":
		return "", c.Rmdir(x.a)
	case "Unlink":
		return "", c.Unlink(x.a)
	case "Rename":
		return "", c.Rename(x.a, x.b)
	case "Chmod":
		return "", c.Chmod(x.a, x.n)
	case "Touch":
		return "", c.Touch(x.a)
	}
	panic("no such call: " + x.call)
}

func two[T any](x T, e api.Errno) (any, api.Errno) { return x, e }

func (x act) String() string { return fmt.Sprintf("%s(%.80q, %.80q, %d)", x.call, x.a, x.b, x.n) }

// equal tells whether all of two trees is alike.
func equal(a, b api.Tree) bool {
	return a.Last == b.Last && a.Room == b.Room && slices.EqualFunc(a.Nodes, b.Nodes, tree.SameNode)
}

// pair is a file system and its model.
type pair struct {
	f *Files
	d *Disk
	m *model
}

func open(t *testing.T, x api.Tree, clock int) pair {
	t.Helper()
	f, d, e := Open(x, clock)
	if e != api.OK {
		t.Fatal("a tree that may be isn't opened:", e)
	}
	return pair{f, d, modelOf(x, clock)}
}

// try makes a call on both, and holds what they tell, and leave, against each other; and what follows from all promises.
func (p pair) try(t *testing.T, x act) {
	t.Helper()
	was, clock := p.d.Tree(), p.f.Clock()
	got, e := x.do(p.f)
	want, f := x.do(p.m)
	if got != want || e != f {
		t.Fatalf("%v = %v, %d, not %v, %d, in %+v", x, got, e, want, f, was)
	}
	is := p.d.Tree()
	if !equal(is, p.m.tree()) || p.f.Clock() != p.m.Clock() {
		t.Fatalf("%v at %d: %+v becomes %+v at %d", x, clock, was, is, p.f.Clock())
	}
	if e != api.OK && (!equal(was, is) || p.f.Clock() != clock) {
		t.Fatalf("%v changes something beside its error", x)
	}
	if tree.Check(is) != api.OK {
		t.Fatalf("%v: %+v may not be", x, is)
	}
	nodes, bytes := tree.Usage(was)
	more, many := tree.Usage(is)
	if more > max(nodes, min(512, is.Room.Nodes)) || many > max(bytes, is.Room.Bytes) {
		t.Fatalf("%v: %d nodes, %d bytes of %v", x, more, many, is.Room)
	}
}

// signs is a text of one sign, n times.
func signs(n int) string { return strings.Repeat("x", n) }

func to(name string, id int) api.Entry { return api.Entry{Name: name, Node: id} }

func dir(id int, l ...api.Entry) api.Node {
	return api.Node{ID: id, Kind: api.Dir, Mode: 0o755, Entries: l}
}

func file(id int, data string) api.Node {
	return api.Node{ID: id, Kind: api.File, Mode: 0o600, Data: data}
}

func sym(id int, data string) api.Node {
	return api.Node{ID: id, Kind: api.Sym, Mode: 0o777, Data: data}
}

// of is a tree of some nodes, with much room.
func of(l ...api.Node) api.Tree {
	t := api.Tree{Nodes: l, Room: api.Room{Nodes: 1000, Bytes: 1 << 20}}
	for _, n := range l {
		t.Last = max(t.Last, n.ID)
	}
	return t
}

// usual is a tree with all kinds of nodes: a file and a link under several names, directories in one another, links to all kinds of ends.
func usual() api.Tree {
	t := of(
		dir(1, to("d", 3), to("e", 8), to("f", 7), to("l", 9), to("n", 12), to("r", 13), to("s", 14)),
		dir(3, to("d", 4), to("f", 7), to("l", 10), to("u", 11)),
		dir(4, to("g", 5)),
		file(5, "five"),
		file(7, "hi\x00"),
		dir(8),
		sym(9, "d"),
		sym(10, "../f"),
		sym(11, "/d/d/"),
		sym(12, "none"),
		sym(13, "/"),
		sym(14, "s"),
	)
	t.Last = 20
	t.Nodes[4].Owner, t.Nodes[4].Time, t.Nodes[5].Time = 65535, 1<<40, 7
	return t
}

// pathsOf are paths of many kinds, for trees like usual.
func pathsOf() []string {
	return []string{
		"", "x", "/", "//", "/.", "/..", "/d", "/d/", "/d/.", "/d/..", "/d/d", "/d/d/", "/d/d/g", "/d/d/g/", "/d/f", "/f", "/f/", "/f/.", "/f/x",
		"/e", "/e/", "/e/x", "/e/x/", "/e/x/y", "/l", "/l/", "/l/f", "/l/d", "/l/l", "/l/u", "/l/u/g", "/l/../f", "/d/l", "/d/l/", "/d/u", "/d/u/", "/d/u/x",
		"/n", "/n/", "/n/x", "/n/..", "/none", "/none/", "/none/x", "/r", "/r/", "/r/f", "/r/r/d", "/s", "/s/", "/s/x",
		"/x", "/x/", "/d/x", "/d/x/", "/d/d/x", "/../d/./d/../x", "/d\x00", "/" + signs(65), signs(257), "/" + signs(64),
	}
}

// actsOf are calls of all kinds with some paths.
func actsOf(paths []string) []act {
	var l []act
	for _, p := range paths {
		for _, call := range []string{"Read", "Target", "List", "Rmdir", "Unlink", "Touch", "Stat"} {
			l = append(l, act{call, p, "", 0})
		}
		l = append(l, act{"Stat", p, "", 1})
		for _, mode := range []int{0, 0o777, 0o1000, -1, 0o700} {
			l = append(l, act{"Mkdir", p, "", mode}, act{"Chmod", p, "", mode})
		}
		for how := range 5 {
			for _, data := range []string{"", "x", "12345678", signs(4096), signs(4097)} {
				l = append(l, act{"Write", p, data, how})
			}
		}
		for _, target := range []string{"", "d", "f", "/", "..", "d/", "/none/", "e/x", "n/", "l", "a\x00", signs(64), "/d/" + signs(65), signs(256), signs(257), "../d/d/../f", "x//"} {
			l = append(l, act{"Symlink", target, p, 0})
		}
		for _, q := range paths {
			l = append(l, act{"Link", p, q, 0}, act{"Rename", p, q, 0})
		}
	}
	return l
}

// P5.2 to P5.8: each call of all kinds on a tree with all kinds of nodes, with room and without.
func TestEachCall(t *testing.T) {
	acts := actsOf(pathsOf())
	for _, room := range []api.Room{{Nodes: 1000, Bytes: 1 << 20}, {Nodes: 12, Bytes: 30}, {Nodes: 13, Bytes: 36}, {Nodes: -1, Bytes: -1}} {
		for _, x := range acts {
			y := usual()
			y.Room = room
			open(t, y, 41).try(t, x)
		}
	}
}

// P5.2 to P5.8: long runs of calls, one behind the other, each on what the ones ahead of it left.
func TestManyCalls(t *testing.T) {
	few := []string{
		"/", "/d", "/d/", "/d/d", "/d/d/d", "/d/d/..", "/e", "/e/", "/d/e", "/e/d", "/f", "/f/", "/d/f", "/d/d/f", "/e/f", "/l", "/l/", "/d/l", "/d/l/f",
		"/l/d", "/e/l", "/e/../l", "/d/d/l", "/l/l", "/l/..", "/d/./f", "/x", "/d/x/",
	}
	acts := slices.DeleteFunc(actsOf(few), func(x act) bool { return x.call == "Symlink" && len(x.a) > 30 })
	turn := uint64(1)
	next := func(n int) int {
		turn = turn*6364136223846793005 + 1442695040888963407
		return int(turn>>33) % n
	}
	for run := range 40 {
		y := tree.New(api.Room{Nodes: 4 + run%9, Bytes: 10 + 13*(run%7)})
		if run%4 == 3 {
			y = usual()
			y.Room = api.Room{Nodes: 10 + run%6, Bytes: 50}
		}
		p := open(t, y, 1<<40-300*(run%2))
		for range 1500 {
			// Names are taken away less often than they are made, or nothing would be there.
			x := acts[next(len(acts))]
			if next(3) > 0 && (x.call == "Rename" || x.call == "Link") {
				x = acts[next(len(acts))]
			}
			p.try(t, x)
		}
	}
}
