package tree

import (
	"math"
	"slices"
	"strings"
	"testing"

	"rehearsal/api"
)

func to(name string, id int) api.Entry { return api.Entry{Name: name, Node: id} }

func dir(id int, l ...api.Entry) api.Node {
	return api.Node{ID: id, Kind: api.Dir, Mode: 0o755, Entries: l}
}

func file(id int, data string) api.Node { return api.Node{ID: id, Kind: api.File, Data: data} }

func sym(id int, data string) api.Node { return api.Node{ID: id, Kind: api.Sym, Data: data} }

// of is a tree of some nodes, with the greatest of their numbers as its last one.
func of(l ...api.Node) api.Tree {
	t := api.Tree{Nodes: l, Room: api.Room{Nodes: 9, Bytes: 99}}
	for _, n := range l {
		t.Last = max(t.Last, n.ID)
	}
	return t
}

// usual is a tree with all kinds of nodes: a file under three names, an empty directory, numbers left out.
func usual() api.Tree {
	t := of(
		dir(1, to("b", 7), to("d", 3), to("z", 7)),
		dir(3, to("a", 7), to("e", 4), to("s", 9)),
		dir(4),
		file(7, "hi\x00"),
		sym(9, "../b"),
	)
	t.Last = 12
	return t
}

// equal tells whether all of two trees is alike.
func equal(a, b api.Tree) bool {
	return a.Last == b.Last && a.Room == b.Room && slices.EqualFunc(a.Nodes, b.Nodes, alike)
}

// alike tells whether all of two nodes is alike: what is left without the entries can be held against each other.
func alike(a, b api.Node) bool {
	type plain struct {
		id, kind, mode, owner, time int
		data                        string
	}
	return slices.Equal(a.Entries, b.Entries) &&
		plain{a.ID, a.Kind, a.Mode, a.Owner, a.Time, a.Data} == plain{b.ID, b.Kind, b.Mode, b.Owner, b.Time, b.Data}
}

// deep is a copy that shares nothing.
func deep(t api.Tree) api.Tree {
	t.Nodes = append([]api.Node(nil), t.Nodes...)
	for i := range t.Nodes {
		t.Nodes[i].Entries = append([]api.Entry(nil), t.Nodes[i].Entries...)
	}
	return t
}

// spare is a tree like another one, with room behind its lists that holds something.
func spare(t api.Tree) api.Tree {
	t = deep(t)
	for i, n := range t.Nodes {
		t.Nodes[i].Entries = append(n.Entries, to("spare", 77), to("spare", 78))[:len(n.Entries)]
	}
	t.Nodes = append(t.Nodes, file(88, "spare"), file(89, "spare"))[:len(t.Nodes)]
	return t
}

// keeps tells whether a tree made by spare still is as the other one, and what lies behind its lists, too.
func keeps(t, was api.Tree) bool {
	if !equal(t, was) || !alike(t.Nodes[:len(t.Nodes)+1][len(t.Nodes)], file(88, "spare")) {
		return false
	}
	for _, n := range t.Nodes {
		if n.Entries[:len(n.Entries)+1][len(n.Entries)] != to("spare", 77) {
			return false
		}
	}
	return true
}

// spoil changes all that an answer has, and what lies behind its lists.
func spoil(l []api.Node) {
	for i, n := range l[:cap(l)] {
		for k := range n.Entries[:cap(n.Entries)] {
			n.Entries[:cap(n.Entries)][k] = to("spoilt", -1)
		}
		l[:cap(l)][i] = file(-1, "spoilt")
	}
}

// P4.1: a root alone, whatever the room is.
func TestNew(t *testing.T) {
	for _, room := range []api.Room{{}, {Nodes: 9, Bytes: 99}, {Nodes: -1, Bytes: math.MaxInt}} {
		want := api.Tree{Nodes: []api.Node{{ID: 1, Kind: 1, Mode: 493}}, Last: 1, Room: room}
		got := New(room)
		if !equal(got, want) {
			t.Error(got)
		}
		if Check(got) != api.OK {
			t.Error("a new tree may not be")
		}
		if n, b := Usage(got); n != 1 || b != 0 {
			t.Error(n, b)
		}
		spoil(got.Nodes)
		if !equal(New(room), want) {
			t.Error("new trees share a node")
		}
	}
}

// P4.2: each node of a tree, and none of a number that no node has.
func TestGet(t *testing.T) {
	x := usual()
	for id := -3; id < 20; id++ {
		i := slices.IndexFunc(x.Nodes, func(n api.Node) bool { return n.ID == id })
		want, has := api.Node{}, i >= 0
		if has {
			want = x.Nodes[i]
		}
		if got, ok := Get(x, id); ok != has || !alike(got, want) {
			t.Error(id, got, ok)
		}
	}
	for _, id := range []int{math.MinInt, 0, 1, math.MaxInt} {
		if got, ok := Get(api.Tree{Last: 5}, id); ok || !alike(got, api.Node{}) {
			t.Error(id, got, ok)
		}
	}
	// Only the numbers must rise, from wherever they begin.
	odd := of(file(math.MinInt, "a"), file(-1, "b"), file(0, "c"), file(math.MaxInt, "d"))
	for _, n := range odd.Nodes {
		if got, ok := Get(odd, n.ID); !ok || !alike(got, n) {
			t.Error(n.ID, got, ok)
		}
	}
	if got, ok := Get(odd, 1); ok || !alike(got, api.Node{}) {
		t.Error(got, ok)
	}
}

// P4.2: a node of every number in a tree as great as may be.
func TestGetMany(t *testing.T) {
	var l []api.Node
	for i := range 512 {
		l = append(l, file(3*i+1, strings.Repeat("x", i)))
	}
	for id := range 3*512 + 3 {
		got, ok := Get(of(l...), id)
		if want := id%3 == 1 && id < 3*512; ok != want || ok && (got.ID != id || len(got.Data) != id/3) {
			t.Error(id, got.ID, ok)
		}
	}
}

// P4.2: what was told is new memory.
func TestGetNew(t *testing.T) {
	x := spare(usual())
	for _, id := range []int{1, 3, 4, 7, 9} {
		n, _ := Get(x, id)
		n.Entries = append(n.Entries, to("more", 1))
		spoil([]api.Node{n})
		if !keeps(x, usual()) {
			t.Error("Get shares what it tells of", id)
		}
	}
}

// P4.2: where a name leads to, and nothing of one that is not there.
func TestChild(t *testing.T) {
	n := dir(5, to("a", 3), to("a!", 8), to("ab", 3), to("b", 2), to("\xff", 9))
	for _, x := range n.Entries {
		if id, ok := Child(n, x.Name); id != x.Node || !ok {
			t.Error(x, id, ok)
		}
	}
	for _, name := range []string{"", "A", "a ", "aa", "aba", "c", "\xfe", "\xff\x00", "a/", ".", ".."} {
		if id, ok := Child(n, name); id != 0 || ok {
			t.Errorf("%q: %d %v", name, id, ok)
		}
	}
	for _, empty := range []api.Node{{}, dir(1), file(2, "a"), sym(3, "a")} {
		if id, ok := Child(empty, "a"); id != 0 || ok {
			t.Error(id, ok)
		}
	}
	// That a tree with them may not be plays no part: names rise.
	if id, ok := Child(dir(2, to("", 5), to("a/b", 0), to("b", -4)), "b"); id != -4 || !ok {
		t.Error(id, ok)
	}
	if id, ok := Child(dir(2, to("", 5), to("a/b", 0)), "a/b"); id != 0 || !ok {
		t.Error(id, ok)
	}
	if id, ok := Child(dir(2, to("", 5), to("a/b", 0)), ""); id != 5 || !ok {
		t.Error(id, ok)
	}
}

// P4.2: how many nodes, and how many bytes of data in all; names are none of these.
func TestUsage(t *testing.T) {
	for _, c := range []struct {
		x        api.Tree
		n, bytes int
	}{
		{api.Tree{}, 0, 0},
		{New(api.Room{Nodes: 5, Bytes: 5}), 1, 0},
		{usual(), 5, 7},
		{of(dir(1), file(2, strings.Repeat("é", 2048)), sym(3, strings.Repeat("x", 256))), 3, 4096 + 256},
		// Trees that may not be have nodes and bytes, too.
		{of(api.Node{Data: "abc"}, file(9, strings.Repeat("x", 5000)), dir(9), api.Node{Kind: 8, Data: "\x00"}), 4, 5004},
	} {
		if n, b := Usage(c.x); n != c.n || b != c.bytes {
			t.Error(n, b, c.n, c.bytes)
		}
	}
	if n, _ := Usage(of(make([]api.Node, 513)...)); n != 513 {
		t.Error(n)
	}
}

// P4.2: all entries count that lead to the number, whoever has them, and whatever it is.
func TestLinks(t *testing.T) {
	for id, want := range map[int]int{-1: 0, 0: 0, 1: 0, 2: 0, 3: 1, 4: 1, 7: 3, 9: 1, 12: 0} {
		if got := Links(usual(), id); got != want {
			t.Error(id, got)
		}
	}
	two := of(dir(1, to("a", 5), to("b", 5)), file(5, ""))
	if Links(two, 5) != 2 || Links(api.Tree{}, 0) != 0 {
		t.Error(Links(two, 5))
	}
	odd := of(dir(1, to("a", 1), to("a", 1), to("b", 6)), api.Node{ID: 2, Kind: api.File, Entries: []api.Entry{to("", 6), to("x", 0), to("y", -2)}})
	for id, want := range map[int]int{1: 2, 6: 2, 0: 1, -2: 1, 2: 0} {
		if got := Links(odd, id); got != want {
			t.Error(id, got)
		}
	}
}

// changes are what makes a node another one, each by one thing.
var changes = map[string]func(n *api.Node){
	"ID":     func(n *api.Node) { n.ID++ },
	"Kind":   func(n *api.Node) { n.Kind++ },
	"Mode":   func(n *api.Node) { n.Mode++ },
	"Owner":  func(n *api.Node) { n.Owner++ },
	"Time":   func(n *api.Node) { n.Time++ },
	"Data":   func(n *api.Node) { n.Data += "x" },
	"less":   func(n *api.Node) { n.Entries = n.Entries[:1] },
	"more":   func(n *api.Node) { n.Entries = append(n.Entries, to("z", 9)) },
	"name":   func(n *api.Node) { n.Entries[1].Name = "c" },
	"leads":  func(n *api.Node) { n.Entries[1].Node = 4 },
	"turned": func(n *api.Node) { n.Entries[0], n.Entries[1] = n.Entries[1], n.Entries[0] },
}

// P4.4: nodes are the same if nothing at all of them differs.
func TestSameNode(t *testing.T) {
	plain := func() api.Node {
		return api.Node{ID: 2, Kind: 1, Mode: 3, Owner: 4, Time: 5, Data: "x", Entries: []api.Entry{to("a", 3), to("b", 3)}}
	}
	if !SameNode(plain(), plain()) || !SameNode(api.Node{}, api.Node{Entries: []api.Entry{}}) {
		t.Error("the same node is another one")
	}
	for what, change := range changes {
		n := plain()
		change(&n)
		if SameNode(plain(), n) || SameNode(n, plain()) {
			t.Error("the same but for:", what)
		}
		if !SameNode(n, n) {
			t.Error("not the same as itself:", what)
		}
	}
}

// P4.4: trees are the same by their nodes: the last number and the room play no part.
func TestSame(t *testing.T) {
	x, y := usual(), usual()
	y.Last, y.Room = 1<<40, api.Room{Nodes: -1, Bytes: 5}
	if !Same(x, y) || !Same(y, x) {
		t.Error("the last number and the room play a part")
	}
	// The same files with other numbers, so that they stand in another order.
	y = of(
		dir(1, to("b", 2), to("d", 40), to("z", 2)),
		file(2, "hi\x00"),
		dir(30),
		sym(31, "../b"),
		dir(40, to("a", 2), to("e", 30), to("s", 31)),
	)
	if !Same(x, y) || !Same(y, x) {
		t.Error("the numbers of nodes play a part")
	}
	for i, change := range []func(l []api.Node){
		func(l []api.Node) { l[0].Mode = 0o700 },
		func(l []api.Node) { l[2].Owner = 1 },
		func(l []api.Node) { l[3].Time = 1 },
		func(l []api.Node) { l[3].Data = "hi" },
		func(l []api.Node) { l[3].Kind, l[3].Data = api.Sym, "hi" },
		func(l []api.Node) { l[0].Entries[0].Name = "c" },
		func(l []api.Node) { l[0].Entries = l[0].Entries[:2] },
		func(l []api.Node) { l[2].Entries = []api.Entry{to("a", 9)} },
		func(l []api.Node) { l[0].Entries[2].Node = 9 },
	} {
		z := usual()
		change(z.Nodes)
		if Check(z) != api.OK || Same(x, z) || Same(z, x) {
			t.Error("the same, but for change", i)
		}
	}
	// One file under two names is not two files that are alike.
	one, two := of(dir(1, to("a", 2), to("b", 2)), file(2, "")), of(dir(1, to("a", 2), to("b", 3)), file(2, ""), file(3, ""))
	if Same(one, two) || Same(two, one) {
		t.Error("two files are one")
	}
}

// P4.4: trees that may not be are not the same as any, themselves not left out.
func TestSameNone(t *testing.T) {
	for _, x := range []api.Tree{{}, of(file(1, "")), of(dir(2)), of(dir(1), file(2, ""))} {
		if Same(x, x) || Same(x, usual()) || Same(usual(), x) || Same(x, api.Tree{}) {
			t.Error(x)
		}
	}
}

// P4.2, P4.3, P4.4: nothing that is handed in is changed, the room behind lists not left out.
func TestKeeps(t *testing.T) {
	x := spare(usual())
	New(x.Room)
	Check(x)
	Usage(x)
	Path(x, 9)
	Canon(x)
	Same(x, x)
	for i, n := range x.Nodes {
		Get(x, n.ID)
		Links(x, n.ID)
		Child(n, "e")
		Entries(n.Entries)
		SameNode(n, x.Nodes[len(x.Nodes)-1-i])
	}
	if !keeps(x, usual()) {
		t.Error(x)
	}
}
