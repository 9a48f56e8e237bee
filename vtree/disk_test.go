package vtree

import (
	"math"
	"slices"
	"testing"

	"rehearsal/api"
	"rehearsal/short"
	"rehearsal/tree"
)

// deep is a copy that shares nothing.
func deep(t api.Tree) api.Tree {
	t.Nodes = slices.Clone(t.Nodes)
	for i := range t.Nodes {
		t.Nodes[i].Entries = slices.Clone(t.Nodes[i].Entries)
	}
	return t
}

// spare is a tree like another one, with room behind its lists that holds something.
func spare(t api.Tree) api.Tree {
	t = deep(t)
	for i, n := range t.Nodes {
		t.Nodes[i].Entries = append(n.Entries, to("spare", 77), to("spare", 78))[:len(n.Entries)]
	}
	t.Nodes = append(t.Nodes, file(88, "spare"))[:len(t.Nodes)]
	return t
}

// keeps tells whether a tree made by spare still is as the other one, and what lies behind its lists, too.
func keeps(t, was api.Tree) bool {
	if !equal(t, was) || !tree.SameNode(t.Nodes[:len(t.Nodes)+1][len(t.Nodes)], file(88, "spare")) {
		return false
	}
	for _, n := range t.Nodes {
		if n.Entries[:len(n.Entries)+1][len(n.Entries)] != to("spare", 77) {
			return false
		}
	}
	return true
}

// spoil changes all that a tree has, and what lies behind its lists.
func spoil(t api.Tree) {
	for i, n := range t.Nodes {
		spoilEntries(n.Entries)
		t.Nodes[i] = file(-1, "spoilt")
	}
}

func spoilEntries(l []api.Entry) {
	for i := range l[:cap(l)] {
		l[:cap(l)][i] = to("spoilt", -1)
	}
}

// P5.1: an entry comes to its place, instead of one of its name, or goes.
func TestBound(t *testing.T) {
	l := func(x ...api.Entry) []api.Entry { return x }
	for _, c := range []struct {
		l    []api.Entry
		name string
		id   int
		want []api.Entry
	}{
		{nil, "a", 2, l(to("a", 2))},
		{nil, "a", 0, nil},
		{l(), "a", 0, nil},
		{l(to("a", 2)), "a", 3, l(to("a", 3))},
		{l(to("a", 2)), "a", 2, l(to("a", 2))},
		{l(to("a", 2)), "a", 0, nil},
		{l(to("a", 2)), "b", 0, l(to("a", 2))},
		{l(to("a", 2), to("c", 3)), "b", 3, l(to("a", 2), to("b", 3), to("c", 3))},
		{l(to("a", 2), to("c", 3)), "A", 4, l(to("A", 4), to("a", 2), to("c", 3))},
		{l(to("a", 2), to("c", 3)), "d", 4, l(to("a", 2), to("c", 3), to("d", 4))},
		{l(to("a", 2), to("ab", 3)), "a!", 4, l(to("a", 2), to("a!", 4), to("ab", 3))},
		{l(to("a", 2), to("\xff", 3)), "é", 4, l(to("a", 2), to("é", 4), to("\xff", 3))},
		{l(to("a", 2), to("b", 3), to("c", 4)), "b", 0, l(to("a", 2), to("c", 4))},
		{l(to("a", 2), to("b", 3), to("c", 4)), "b", 9, l(to("a", 2), to("b", 9), to("c", 4))},
		{l(to("a", 2), to("b", 3), to("c", 4)), "c", 0, l(to("a", 2), to("b", 3))},
		// What no tree may have are names and numbers here, too.
		{l(to("", -5)), "/", math.MinInt, l(to("", -5), to("/", math.MinInt))},
		{l(to("a", 0)), "", math.MaxInt, l(to("", math.MaxInt), to("a", 0))},
	} {
		if got := Bound(c.l, c.name, c.id); !slices.Equal(got, c.want) {
			t.Error(c.l, c.name, c.id, got)
		}
	}
}

// P5.1: all small lists of rising names, by the words: those of other names, and the entry, sorted.
func TestBoundAll(t *testing.T) {
	names := short.Texts("ab", 2)
	for pick := range 1 << len(names) {
		var l []api.Entry
		for i, name := range names {
			if pick>>i&1 == 1 {
				l = append(l, to(name, i+1))
			}
		}
		slices.SortFunc(l, byName)
		for _, name := range append(names, "aab", "\xff") {
			for _, id := range []int{0, 1, 5, -1} {
				want := slices.DeleteFunc(slices.Clone(l), func(x api.Entry) bool { return x.Name == name })
				if id != 0 {
					want = append(want, to(name, id))
				}
				slices.SortFunc(want, byName)
				if got := Bound(l, name, id); !slices.Equal(got, want) {
					t.Fatal(l, name, id, got)
				}
			}
		}
	}
}

func byName(a, b api.Entry) int {
	switch {
	case a.Name < b.Name:
		return -1
	case a.Name > b.Name:
		return 1
	}
	return 0
}

// P5.1: what is handed to Bound stays, the room behind it not left out, and what it tells is new.
func TestBoundNew(t *testing.T) {
	for _, name := range []string{"", "a", "b", "c", "d", "e", "f"} {
		for _, id := range []int{0, 9} {
			all := []api.Entry{to("b", 2), to("d", 3), to("e", 4), to("spare", 77), to("spare", 78)}
			was := slices.Clone(all)
			got := Bound(all[:3], name, id)
			if !slices.Equal(all, was) {
				t.Error(name, id, all)
			}
			got = append(got, to("more", 1))
			spoilEntries(got)
			if !slices.Equal(all, was) {
				t.Error("Bound shares", name, id)
			}
		}
	}
	// What does not rise, or has a name twice, comes to an end, too.
	Bound([]api.Entry{to("b", 2), to("a", 3), to("b", 4), to("a", 5)}, "a", 6)
}

// P5.1: a disk is made of a tree that may be, and tells it as it was.
func TestNewDisk(t *testing.T) {
	far := of(dir(1, to("a", 1<<40-1)), file(1<<40-1, ""))
	far.Last = 1 << 40
	for _, x := range []api.Tree{usual(), tree.New(api.Room{}), tree.New(api.Room{Nodes: -1, Bytes: math.MinInt}), far} {
		d, e := NewDisk(x)
		if e != api.OK || !equal(d.Tree(), x) {
			t.Error(e, d.Tree(), x)
		}
	}
	for _, x := range []api.Tree{
		{}, of(file(1, "")), of(dir(2)), of(dir(1), file(2, "")), of(dir(1, to("a", 2))),
		of(dir(1, to("a/", 2)), file(2, "")), of(dir(1, to("b", 2), to("a", 2)), file(2, "")), {Nodes: []api.Node{dir(1)}},
	} {
		if d, e := NewDisk(x); d != nil || e != api.ErrTree {
			t.Error(x, d, e)
		}
		if f, d, e := Open(x, 5); f != nil || d != nil || e != api.ErrTree {
			t.Error(x, f, d, e)
		}
	}
}

// P5.1: a disk shares nothing with the tree it was made of, nor with what it told.
func TestDiskNew(t *testing.T) {
	x := spare(usual())
	d, _ := NewDisk(x)
	f := New(d, 0)
	for _, a := range []act{{"Write", "/d/a", "x", 1}, {"Write", "/zz", "x", 1}, {"Unlink", "/d/f", "", 0}, {"Rename", "/d", "/e", 0}} {
		if _, e := a.do(f); e != api.OK {
			t.Error(a, e)
		}
	}
	if !keeps(x, usual()) {
		t.Error("a disk changes the tree it was made of")
	}
	d, _ = NewDisk(x)
	spoil(x)
	if !equal(d.Tree(), usual()) {
		t.Error("a disk has the tree that it was made of")
	}
	spoil(d.Tree())
	for id := range 20 {
		n := d.Node(id)
		if len(n.Entries) > 0 || cap(n.Entries) > 0 {
			t.Error("Node tells entries", n)
		}
		spoilEntries(d.Entries(id))
		_ = append(d.Entries(id), to("more", 2))
	}
	if l, _ := New(d, 0).List("/"); len(l) > 0 {
		l[0] = "spoilt"
	}
	if !equal(d.Tree(), usual()) {
		t.Error("a disk shares what it told")
	}
	// A tree that was told stays as it is, whatever is done with the disk then.
	told := d.Tree()
	f = New(d, 0)
	if f.Rmdir("/e") != api.OK || f.Write("/f", "else", 1) != api.OK || !equal(told, usual()) {
		t.Error("a tree that was told changes")
	}
}

// P5.1: a disk has Store's calls, and they tell what there is.
func TestDiskAsks(t *testing.T) {
	d, _ := NewDisk(usual())
	var s Store = d
	for _, n := range usual().Nodes {
		if got := s.Kind(n.ID); got != n.Kind {
			t.Error(n.ID, got)
		}
		if got := s.Entries(n.ID); !slices.Equal(got, n.Entries) {
			t.Error(n.ID, got)
		}
		if got := s.Links(n.ID); got != tree.Links(usual(), n.ID) {
			t.Error(n.ID, got)
		}
		for _, name := range []string{"d", "e", "f", "g", "l", "none", "", ".", "..", "D"} {
			want, _ := tree.Child(n, name)
			if got := s.Entry(n.ID, name); got != want {
				t.Error(n.ID, name, got)
			}
		}
		n.Entries = nil
		if got := s.Node(n.ID); !tree.SameNode(got, n) {
			t.Error(n, got)
		}
	}
	nodes, bytes := s.Usage()
	if wantNodes, wantBytes := tree.Usage(usual()); nodes != wantNodes || bytes != wantBytes {
		t.Error(nodes, bytes)
	}
	if s.Room() != usual().Room || s.Fresh() != 21 || s.Fresh() != 21 {
		t.Error(s.Room(), s.Fresh())
	}
}

// P5.1: a disk has Store's calls that change it: nodes keep their entries, and numbers are given once.
func TestDiskChanges(t *testing.T) {
	d, _ := NewDisk(of(dir(1, to("a", 2)), dir(2, to("b", 3)), file(3, "x")))
	d.Put(api.Node{ID: 4, Kind: api.File, Mode: 1, Owner: 2, Time: 3, Data: "four", Entries: []api.Entry{to("no", 1)}})
	d.Put(api.Node{ID: 2, Kind: api.Dir, Mode: 0o711, Time: 9, Entries: []api.Entry{to("no", 1)}})
	d.Bind(2, "a", 4)
	d.Bind(2, "c", 4)
	d.Bind(1, "z", 4)
	want := of(
		dir(1, to("a", 2), to("z", 4)),
		api.Node{ID: 2, Kind: api.Dir, Mode: 0o711, Time: 9, Entries: []api.Entry{to("a", 4), to("b", 3), to("c", 4)}},
		file(3, "x"),
		api.Node{ID: 4, Kind: api.File, Mode: 1, Owner: 2, Time: 3, Data: "four"},
	)
	if !equal(d.Tree(), want) || d.Fresh() != 5 || d.Links(4) != 3 {
		t.Error(d.Tree(), d.Fresh(), d.Links(4))
	}
	if nodes, bytes := d.Usage(); nodes != 4 || bytes != 5 {
		t.Error(nodes, bytes)
	}
	for _, name := range []string{"a", "c", "none"} {
		d.Bind(2, name, 0)
	}
	d.Bind(1, "z", 3)
	d.Drop(4)
	// The number of a node that is there no more is not given again.
	if d.Fresh() != 5 || d.Links(4) != 0 || d.Links(3) != 2 || d.Kind(4) != 0 {
		t.Error(d.Fresh(), d.Links(4), d.Links(3), d.Kind(4))
	}
	want = of(dir(1, to("a", 2), to("z", 3)), api.Node{ID: 2, Kind: api.Dir, Mode: 0o711, Time: 9, Entries: []api.Entry{to("b", 3)}}, file(3, "x"))
	want.Last = 4
	if !equal(d.Tree(), want) {
		t.Error(d.Tree())
	}
	d.Put(file(9, ""))
	if d.Fresh() != 10 {
		t.Error(d.Fresh())
	}
	d.Put(file(3, "y"))
	if d.Fresh() != 10 || d.Node(3).Data != "y" {
		t.Error(d.Fresh(), d.Node(3))
	}
}

// P5.1: what is asked of a node that is not there has no answer, and nothing is bound in it.
func TestDiskNone(t *testing.T) {
	d, _ := NewDisk(usual())
	for _, id := range []int{0, 2, 21, -1, math.MinInt, math.MaxInt} {
		d.Bind(id, "a", 3)
		d.Drop(id)
		if d.Kind(id) != 0 || !tree.SameNode(d.Node(id), api.Node{}) || d.Entry(id, "a") != 0 || len(d.Entries(id)) != 0 || d.Links(id) != 0 {
			t.Error(id, d.Node(id))
		}
	}
	if !equal(d.Tree(), usual()) {
		t.Error(d.Tree())
	}
}

// P5.1: a disk that is nil, or that no call made, answers zeros, and stays so.
func TestDiskNil(t *testing.T) {
	for _, d := range []*Disk{nil, {}} {
		for range 2 {
			nodes, bytes := d.Usage()
			if d.Kind(1) != 0 || !tree.SameNode(d.Node(1), api.Node{}) || d.Entry(1, "a") != 0 || len(d.Entries(1)) != 0 || d.Links(1) != 0 ||
				nodes != 0 || bytes != 0 || d.Room() != (api.Room{}) || d.Fresh() != 0 || !equal(d.Tree(), api.Tree{}) {
				t.Error("a disk that no call made has something")
			}
			d.Put(dir(1))
			d.Bind(1, "a", 1)
			d.Bind(1, "a", 0)
			d.Drop(1)
		}
	}
}
