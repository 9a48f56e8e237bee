package vtree

import (
	"fmt"
	"math"
	"slices"
	"testing"

	"rehearsal/api"
	"rehearsal/tree"
)

// step is a call, what it is to tell (as fmt has it), and its error.
type step struct {
	act
	want string
	e    api.Errno
}

// play makes calls one by one, on a file system and its model.
func play(t *testing.T, p pair, l []step) {
	t.Helper()
	for i, x := range l {
		was := p.d.Tree()
		got, e := x.do(p.f)
		if e != x.e || e == api.OK && x.want != "" && fmt.Sprint(got) != x.want {
			t.Errorf("%d: %v = %v, %d", i, x.act, got, e)
		}
		if e != api.OK && !equal(was, p.d.Tree()) {
			t.Errorf("%d: %v changes something beside its error", i, x.act)
		}
		if _, f := x.do(p.m); f != x.e || !equal(p.m.tree(), p.d.Tree()) {
			t.Errorf("%d: the model of %v: %d", i, x.act, f)
		}
	}
}

// P5.1: the clock is at least 0, at most 2^40.
func TestClock(t *testing.T) {
	for clock, want := range map[int]int{
		0: 0, 1: 1, 100: 100, -1: 0, math.MinInt: 0, 1<<40 - 1: 1<<40 - 1, 1 << 40: 1 << 40, 1<<40 + 1: 1 << 40, math.MaxInt: 1 << 40,
	} {
		f, d, _ := Open(tree.New(api.Room{}), clock)
		if f.Clock() != want || New(d, clock).Clock() != want {
			t.Error(clock, f.Clock(), New(d, clock).Clock())
		}
		// Now is one more, but not beyond the greatest time.
		if e := f.Touch("/"); e != api.OK || f.Clock() != min(want+1, 1<<40) {
			t.Error(clock, f.Clock(), e)
		}
		if i, e := f.Stat("/", false); e != api.OK || i.Time != f.Clock() {
			t.Error(i, e)
		}
		f.Touch("/")
		if i, _ := f.Stat("/", false); f.Clock() != min(want+2, 1<<40) || i.Time != f.Clock() {
			t.Error(clock, f.Clock(), i)
		}
	}
}

// P5.1: each Files has a clock of its own, and what they share lies in the store.
func TestNewTwice(t *testing.T) {
	f, d, _ := Open(tree.New(api.Room{Nodes: 9, Bytes: 9}), 10)
	g := New(d, 20)
	if f.Mkdir("/a", 0o700) != api.OK || g.Write("/a/f", "x", 1) != api.OK {
		t.Error("not made")
	}
	if s, e := f.Read("/a/f"); s != "x" || e != api.OK || f.Clock() != 11 || g.Clock() != 21 {
		t.Error(s, e, f.Clock(), g.Clock())
	}
}

// told is what a call told, and its error.
type told struct {
	answer any
	e      api.Errno
}

// P5.1: of nil, of what no call made, and of a nil store every call is ErrNil, whatever it is given, and the clock is 0.
func TestNil(t *testing.T) {
	var none *Disk
	type more struct{ *Disk }
	for i, f := range []*Files{nil, {}, New(nil, 5), New(none, 5), New(&Disk{}, 5), New(more{}, 5)} {
		for _, x := range actsOf([]string{"/", "", "/a", "x", "/\x00"}) {
			answer, e := x.do(f)
			var zero any = ""
			if x.call == "Stat" {
				zero = api.Info{}
			}
			if (told{answer, e}) != (told{zero, api.ErrNil}) || f.Clock() != 0 {
				t.Error(i, x, answer, e, f.Clock())
			}
		}
	}
}

// shelf is another store: its nodes lie in a list, its entries in no order. It tells of what is asked, and refuses what is asked of nodes that are not there.
type shelf struct {
	t     *testing.T
	nodes []api.Node
	last  int
	room  api.Room
	asked []string
}

func shelfOf(t *testing.T, x api.Tree) *shelf {
	s := &shelf{t: t, last: x.Last, room: x.Room}
	for _, n := range deep(x).Nodes {
		slices.Reverse(n.Entries)
		s.nodes = append([]api.Node{n}, s.nodes...)
	}
	return s
}

func (s *shelf) at(id int) *api.Node {
	for i := range s.nodes {
		if s.nodes[i].ID == id {
			return &s.nodes[i]
		}
	}
	s.t.Errorf("node %d is asked of, but isn't there", id)
	return &api.Node{}
}

func (s *shelf) note(x ...any) {
	if line := fmt.Sprintln(x...); !slices.Contains(s.asked, line) {
		s.asked = append(s.asked, line)
	}
}

func (s *shelf) Kind(id int) int {
	s.note("kind", id)
	return s.at(id).Kind
}

func (s *shelf) Node(id int) api.Node {
	s.note("node", id)
	n := *s.at(id)
	n.Entries = nil
	return n
}

func (s *shelf) Entry(dir int, name string) int {
	s.note("entry", dir, name)
	for _, x := range s.at(dir).Entries {
		if x.Name == name {
			return x.Node
		}
	}
	return 0
}

func (s *shelf) Entries(dir int) []api.Entry {
	s.note("entries", dir)
	return slices.Clone(s.at(dir).Entries)
}

func (s *shelf) Links(id int) int {
	s.note("links", id)
	s.at(id)
	links := 0
	for _, n := range s.nodes {
		for _, x := range n.Entries {
			if x.Node == id {
				links++
			}
		}
	}
	return links
}

func (s *shelf) Usage() (int, int) {
	s.note("usage")
	bytes := 0
	for _, n := range s.nodes {
		bytes += len(n.Data)
	}
	return len(s.nodes), bytes
}

func (s *shelf) Room() api.Room { return s.room }

func (s *shelf) Fresh() int { return s.last + 1 }

func (s *shelf) Put(n api.Node) {
	s.note("put", n.ID)
	if n.ID > s.last {
		s.last = n.ID
		s.nodes = append(s.nodes, api.Node{ID: n.ID})
	}
	was := s.at(n.ID)
	n.Entries = was.Entries
	*was = n
}

func (s *shelf) Bind(dir int, name string, id int) {
	s.note("bind", dir, name, id)
	at := s.at(dir)
	at.Entries = slices.DeleteFunc(at.Entries, func(x api.Entry) bool { return x.Name == name })
	if id != 0 {
		s.at(id)
		at.Entries = append(at.Entries, to(name, id))
	}
}

func (s *shelf) Drop(id int) {
	s.note("drop", id)
	s.at(id)
	s.nodes = slices.DeleteFunc(s.nodes, func(n api.Node) bool { return n.ID == id })
}

func (s *shelf) tree() api.Tree {
	t := deep(api.Tree{Nodes: s.nodes, Last: s.last, Room: s.room})
	slices.SortFunc(t.Nodes, func(a, b api.Node) int { return a.ID - b.ID })
	for _, n := range t.Nodes {
		slices.SortFunc(n.Entries, byName)
	}
	return t
}

// P5.1: New makes calls on any store, through its calls alone, and asks of nodes that are there.
func TestNewStore(t *testing.T) {
	for _, room := range []api.Room{{Nodes: 1000, Bytes: 1 << 20}, {Nodes: 13, Bytes: 36}} {
		for _, x := range actsOf(pathsOf()) {
			y := usual()
			y.Room = room
			s, m := shelfOf(t, y), modelOf(y, 41)
			f := New(s, 41)
			got, e := x.do(f)
			want, g := x.do(m)
			if got != want || e != g || f.Clock() != m.Clock() || !equal(s.tree(), m.tree()) {
				t.Fatal(x, got, e, s.tree())
			}
		}
	}
}

// asked is what a call on usual asks a store, but for the room and fresh numbers.
func asked(t *testing.T, x act) []string {
	s := shelfOf(t, usual())
	f := New(s, 0)
	if len(s.asked) > 0 {
		t.Error("New asks", s.asked)
	}
	x.do(f)
	slices.Sort(s.asked)
	return s.asked
}

// P5.1: what a store is asked is what a run sees: no more than what the answer hangs on.
func TestAsked(t *testing.T) {
	for _, c := range []struct {
		x    act
		want []string
	}{
		{act{"Read", "/f", "", 0}, []string{"entry 1 f", "kind 1", "kind 7", "node 7"}},
		{act{"Read", "", "", 0}, nil},
		{act{"Read", "/\x00", "", 0}, nil},
		{act{"Read", "/none", "", 0}, []string{"entry 1 none", "kind 1"}},
		{act{"Read", "/e", "", 0}, []string{"entry 1 e", "kind 1", "kind 8"}},
		{act{"Target", "/n", "", 0}, []string{"entry 1 n", "kind 1", "kind 12", "node 12"}},
		{act{"Stat", "/n", "", 0}, []string{"entry 1 n", "kind 1", "links 12", "node 12"}},
		{act{"List", "/d/..", "", 0}, []string{"entries 1", "entry 1 d", "kind 1", "kind 3"}},
		{act{"Write", "/f", "x", 4}, nil},
		{act{"Mkdir", "/x", "", -1}, nil},
		{act{"Chmod", "/f", "", 0o1000}, nil},
		{act{"Write", "/f", "x", 1}, []string{"entry 1 f", "kind 1", "kind 7", "node 7", "put 7"}},
		{act{"Write", "/f", "", 2}, []string{"entry 1 f", "kind 1", "kind 7", "node 7", "put 7"}},
		{act{"Write", "/f", "xxxx", 1}, []string{"entry 1 f", "kind 1", "kind 7", "node 7", "put 7", "usage"}},
		{act{"Write", "/f", "x", 3}, []string{"entry 1 f", "kind 1"}},
		{act{"Mkdir", "/x", "", 0}, []string{"bind 1 x 21", "entry 1 x", "kind 1", "node 1", "put 1", "put 21", "usage"}},
		{act{"Mkdir", "/f", "", 0}, []string{"entry 1 f", "kind 1"}},
		{act{"Unlink", "/f", "", 0}, []string{"bind 1 f 0", "entry 1 f", "kind 1", "kind 7", "links 7", "node 1", "put 1"}},
	} {
		for i := range c.want {
			c.want[i] += "\n"
		}
		if got := asked(t, c.x); !slices.Equal(got, c.want) {
			t.Errorf("%v asks %q", c.x, got)
		}
	}
}

// P5.8: the examples of the chapter.
func TestExample(t *testing.T) {
	play(t, open(t, tree.New(api.Room{Nodes: 9, Bytes: 99}), 0), []step{
		{act{"Mkdir", "/a", "", 0o755}, "", api.OK},
		{act{"Write", "/a/f", "x", 1}, "", api.OK},
		{act{"Symlink", "a/f", "/l", 0}, "", api.OK},
		{act{"Read", "/l", "", 0}, "x", api.OK},
		{act{"Rename", "/a", "/a/b", 0}, "", api.Invalid},
		{act{"Rmdir", "/a", "", 0}, "", api.NotEmpty},
		{act{"Unlink", "/l", "", 0}, "", api.OK},
		{act{"Read", "/l", "", 0}, "", api.NoEntry},
	})
}

// P5.1: a disk may be spoilt by Store's calls: what is called on it then tells nothing that is promised, but comes to an end.
func TestSpoiltDisk(t *testing.T) {
	for _, spoil := range []func(d *Disk){
		func(d *Disk) { d.Drop(1) },
		func(d *Disk) { d.Drop(3) },
		func(d *Disk) { d.Put(file(1, "root")) },
		func(d *Disk) { d.Put(sym(1, "d")) },
		func(d *Disk) { d.Put(api.Node{ID: 9, Kind: api.Sym}) },
		func(d *Disk) { d.Put(api.Node{ID: 3, Kind: 4, Data: signs(9999)}) },
		func(d *Disk) { d.Put(file(math.MaxInt, "")) },
		func(d *Disk) { d.Put(file(math.MinInt, "")) },
		func(d *Disk) { d.Bind(3, "d", 1) },
		func(d *Disk) { d.Bind(3, "d", 3) },
		func(d *Disk) { d.Bind(1, "x", 99) },
		func(d *Disk) { d.Bind(1, "", -1) },
		func(d *Disk) { d.Bind(7, "x", 1) },
	} {
		for _, x := range actsOf(pathsOf()[2:40]) {
			d, _ := NewDisk(usual())
			f := New(d, 0)
			spoil(d)
			x.do(f)
			x.do(New(d, 0))
			d.Tree()
		}
	}
}
