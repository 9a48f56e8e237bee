package over

import (
	"math"
	"slices"
	"testing"

	"rehearsal/acts"
	"rehearsal/api"
	"rehearsal/tree"
)

// wide is more room than the tests need.
var wide = api.Room{Nodes: 1000, Bytes: 1 << 20}

// usual is a tree with nodes of all kinds: 1 (d 3, e 8, f 7 ..), 3 (d 4, f 7 ..), 4 (g 5), files 5 and 7, an empty directory 8, links from 9 to 14; Last is 20.
func usual() api.Tree { return acts.Tree(wide) }

// made is a store above usual.
func made(t *testing.T) *Over {
	t.Helper()
	o, e := New(usual())
	if e != api.OK {
		t.Fatal(e)
	}
	return o
}

func to(name string, id int) api.Entry { return api.Entry{Name: name, Node: id} }

func dir(id int, l ...api.Entry) api.Node {
	return api.Node{ID: id, Kind: api.Dir, Mode: 0o755, Entries: l}
}

func file(id int, data string) api.Node {
	return api.Node{ID: id, Kind: api.File, Mode: 0o600, Data: data}
}

// equal tells whether all of two trees is alike.
func equal(a, b api.Tree) bool {
	return a.Last == b.Last && a.Room == b.Room && slices.EqualFunc(a.Nodes, b.Nodes, tree.SameNode)
}

// P6.1: above a tree that may be there is nothing at first, and no facts.
func TestNew(t *testing.T) {
	far := api.Tree{Nodes: []api.Node{dir(1, to("a", 1<<40-1)), file(1<<40-1, "")}, Last: 1 << 40}
	for _, x := range []api.Tree{usual(), tree.New(api.Room{}), tree.New(api.Room{Nodes: -1, Bytes: math.MinInt}), far} {
		o, e := New(x)
		if e != api.OK || !equal(o.Tree(), x) || !equal(o.Lower(), x) || len(o.Facts()) != 0 {
			t.Error(e, x)
		}
		f, o, e := Open(x, 41)
		if e != api.OK || !equal(o.Tree(), x) || !equal(o.Lower(), x) || len(o.Facts()) != 0 || f.Clock() != 41 {
			t.Error(e, x)
		}
	}
}

// P6.1: above a tree that may not be there is nothing.
func TestNewErrors(t *testing.T) {
	for _, l := range [][]api.Node{
		nil, {file(1, "")}, {dir(2)}, {dir(1), file(2, "")}, {dir(1, to("a", 2))}, {dir(1, to("a/", 2)), file(2, "")},
		{dir(1, to("b", 2), to("a", 2)), file(2, "")}, {dir(1, to("a", 3)), file(3, "")},
	} {
		x := api.Tree{Nodes: l, Last: 2}
		if o, e := New(x); o != nil || e != api.ErrTree {
			t.Error(x, o, e)
		}
		if f, o, e := Open(x, 5); f != nil || o != nil || e != api.ErrTree {
			t.Error(x, f, o, e)
		}
	}
}

// P6.1: the clock is that of vtree.New, and calls lie on the store that is told beside them.
func TestOpen(t *testing.T) {
	for clock, want := range map[int]int{0: 0, 7: 7, -1: 0, math.MinInt: 0, 1 << 40: 1 << 40, math.MaxInt: 1 << 40} {
		f, o, _ := Open(usual(), clock)
		if f.Clock() != want {
			t.Error(clock, f.Clock())
		}
		if e := f.Touch("/e"); e != api.OK || f.Clock() != min(want+1, 1<<40) || o.Node(8).Time != f.Clock() {
			t.Error(clock, e, o.Node(8))
		}
	}
}

// spoilTree changes all that a tree has, what lies behind its lists, too.
func spoilTree(x api.Tree) {
	for i, n := range x.Nodes {
		spoilEntries(n.Entries)
		x.Nodes[i] = file(-1, "spoilt")
	}
	for i := range x.Nodes[:cap(x.Nodes)] {
		x.Nodes[:cap(x.Nodes)][i] = file(-1, "spoilt")
	}
}

func spoilEntries(l []api.Entry) {
	for i := range l[:cap(l)] {
		l[:cap(l)][i] = to("spoilt", -1)
	}
}

// P6.1, P6.3: a store shares nothing with the tree it lies above, with what it was given, nor with what it told.
func TestNewMemory(t *testing.T) {
	x := usual()
	x.Nodes[0].Entries = append(x.Nodes[0].Entries, to("spare", 77))[:7]
	o, _ := New(x)
	o.Put(dir(21, to("kept", 3)))
	o.Bind(1, "a", 21)
	o.Bind(8, "x", 7)
	o.Entries(8)
	if !equal(x, usual()) || x.Nodes[0].Entries[:8][7] != to("spare", 77) {
		t.Error("a store changes the tree it lies above")
	}
	spoilTree(x)
	want := usual()
	want.Nodes[0].Entries = append([]api.Entry{to("a", 21)}, want.Nodes[0].Entries...)
	want.Nodes[5].Entries = []api.Entry{to("x", 7)}
	want.Nodes = append(want.Nodes, dir(21))
	want.Last = 21
	for range 2 {
		if !equal(o.Tree(), want) || !equal(o.Lower(), usual()) || !slices.Equal(o.Facts(), []api.Fact{{Kind: api.FactList, Node: 8}}) {
			t.Fatal(o.Tree(), o.Lower(), o.Facts())
		}
		spoilTree(o.Tree())
		spoilTree(o.Lower())
		spoilEntries(o.Entries(8))
		facts := o.Facts()
		for i := range facts[:cap(facts)] {
			facts[:cap(facts)][i] = api.Fact{Kind: 1, Node: 1, Name: "spoilt"}
		}
	}
}

// P6.3: facts are told by Kind, then Node, then Name, each once, whenever they were noted.
func TestFacts(t *testing.T) {
	o := made(t)
	for range 2 {
		o.Kind(3)
		o.Kind(1)
		o.Usage()
		o.Links(12)
		o.Links(7)
		o.Node(14)
		o.Node(5)
		o.Entries(8)
		o.Entries(1)
		for _, name := range []string{"f", "zz", "", "é", "\xff", "a", "f!", "F"} {
			o.Entry(3, name)
			o.Entry(1, name)
		}
	}
	want := []api.Fact{
		{Kind: 1, Node: 1}, {Kind: 1, Node: 1, Name: "F"}, {Kind: 1, Node: 1, Name: "a"}, {Kind: 1, Node: 1, Name: "f", To: 7}, {Kind: 1, Node: 1, Name: "f!"},
		{Kind: 1, Node: 1, Name: "zz"}, {Kind: 1, Node: 1, Name: "é"}, {Kind: 1, Node: 1, Name: "\xff"},
		{Kind: 1, Node: 3}, {Kind: 1, Node: 3, Name: "F"}, {Kind: 1, Node: 3, Name: "a"}, {Kind: 1, Node: 3, Name: "f", To: 7}, {Kind: 1, Node: 3, Name: "f!"},
		{Kind: 1, Node: 3, Name: "zz"}, {Kind: 1, Node: 3, Name: "é"}, {Kind: 1, Node: 3, Name: "\xff"},
		{Kind: 2, Node: 1}, {Kind: 2, Node: 8},
		{Kind: 3, Node: 5}, {Kind: 3, Node: 14},
		{Kind: 4, Node: 7}, {Kind: 4, Node: 12},
		{Kind: 5},
		{Kind: 6, Node: 1}, {Kind: 6, Node: 3},
	}
	for range 2 {
		if got := o.Facts(); !slices.Equal(got, want) {
			t.Error(got)
		}
	}
	// Telling trees, room and numbers sees nothing.
	o = made(t)
	o.Tree()
	o.Lower()
	o.Room()
	o.Fresh()
	o.Facts()
	if l := o.Facts(); len(l) != 0 {
		t.Error(l)
	}
}

// P6.2, P6.3: a store that is nil, or that no call made, answers zeros, and stays so.
func TestNil(t *testing.T) {
	for _, o := range []*Over{nil, {}} {
		for range 2 {
			nodes, bytes := o.Usage()
			if o.Kind(1) != 0 || !tree.SameNode(o.Node(1), api.Node{}) || o.Entry(1, "a") != 0 || len(o.Entries(1)) != 0 || o.Links(1) != 0 || nodes != 0 || bytes != 0 || o.Room() != (api.Room{}) || o.Fresh() != 0 {
				t.Error("a store that no call made has something")
			}
			if !equal(o.Tree(), api.Tree{}) || !equal(o.Lower(), api.Tree{}) || len(o.Facts()) != 0 {
				t.Error("a store that no call made tells something")
			}
			o.Put(dir(1))
			o.Bind(1, "a", 1)
			o.Bind(1, "a", 0)
			o.Drop(1)
		}
	}
}
