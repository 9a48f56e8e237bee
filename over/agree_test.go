package over

import (
	"slices"
	"testing"

	"rehearsal/acts"
	"rehearsal/api"
	"rehearsal/tree"
	"rehearsal/vtree"
)

// same tells whether what a fact says of one tree is so in another one.
func same(x api.Fact, a, b api.Tree) bool {
	n, ok := tree.Get(a, x.Node)
	m, there := tree.Get(b, x.Node)
	if x.Kind == api.FactUsage {
		nodes, bytes := tree.Usage(a)
		more, many := tree.Usage(b)
		return x == api.Fact{Kind: api.FactUsage} && nodes == more && bytes == many
	}
	if !ok || !there {
		return false
	}
	switch x.Kind {
	case api.FactKind:
		return n.Kind == m.Kind
	case api.FactNode:
		n.Entries, m.Entries = nil, nil
		return tree.SameNode(n, m)
	case api.FactLinks:
		return tree.Links(a, x.Node) == tree.Links(b, x.Node)
	case api.FactList:
		return slices.EqualFunc(n.Entries, m.Entries, func(x, y api.Entry) bool { return x.Name == y.Name })
	case api.FactEntry:
		id, _ := tree.Child(n, x.Name)
		other, _ := tree.Child(m, x.Name)
		return x.To == id && x.To == other
	}
	return false
}

// allSame tells whether all of some facts are so in both of two trees.
func allSame(l []api.Fact, a, b api.Tree) bool {
	return !slices.ContainsFunc(l, func(x api.Fact) bool { return !same(x, a, b) })
}

// both makes calls on a store above a tree, and on a disk of it, and holds what they answer and leave against each other.
func both(t *testing.T, x api.Tree, clock int, l []acts.Act) {
	t.Helper()
	f, o, e := Open(x, clock)
	g, d, _ := vtree.Open(x, clock)
	if e != api.OK {
		t.Fatal(e)
	}
	for _, a := range l {
		got, want := a.Do(f), a.Do(g)
		if got != want || f.Clock() != g.Clock() || !equal(o.Tree(), d.Tree()) {
			t.Fatalf("%v = %s at %d, on a disk %s at %d; %+v, there %+v", a, got, f.Clock(), want, g.Clock(), o.Tree(), d.Tree())
		}
	}
	if !equal(o.Lower(), x) || !allSame(o.Facts(), x, x) {
		t.Fatalf("below %+v, facts %v", o.Lower(), o.Facts())
	}
}

// P6.4: each call of all kinds answers as on a disk, with room and without, and below stays.
func TestEachCall(t *testing.T) {
	for _, room := range []api.Room{wide, {Nodes: 13, Bytes: 30}} {
		for _, a := range acts.On(acts.Paths()) {
			both(t, acts.Tree(room), 41, []acts.Act{a})
		}
	}
}

// P6.4: so do long runs of calls.
func TestManyCalls(t *testing.T) {
	for run := range 40 {
		x := acts.Tree(api.Room{Nodes: 12 + run%6, Bytes: 20 + 7*(run%8)})
		if run%4 == 3 {
			x = tree.New(api.Room{Nodes: 4 + run%9, Bytes: 10 * run})
		}
		both(t, x, api.MaxTime-300*(run%2), acts.Some(acts.Near(), uint64(run), 400))
	}
}

// entered are trees like another one, in which an entry of a node is another one: taken away, renamed, or leading elsewhere.
func entered(x api.Tree, at int) []api.Tree {
	var out []api.Tree
	with := func(l []api.Entry) {
		y := clone(x)
		y.Nodes[at].Entries = l
		out = append(out, y)
	}
	n := x.Nodes[at]
	for _, e := range n.Entries {
		less := vtree.Bound(n.Entries, e.Name, 0)
		with(less)
		for _, name := range []string{"a", "q", "x", "d", "f"} {
			with(vtree.Bound(less, name, e.Node))
		}
		for _, m := range x.Nodes {
			with(vtree.Bound(n.Entries, e.Name, m.ID))
		}
	}
	for _, name := range []string{"a", "q", "x", "e", "f"} {
		for _, m := range x.Nodes {
			with(vtree.Bound(n.Entries, name, m.ID))
		}
		for kind := range 3 {
			with(vtree.Bound(n.Entries, name, 18))
			y := &out[len(out)-1]
			y.Nodes = append(y.Nodes, api.Node{ID: 18, Kind: kind + 1, Data: "data"[:4*min(kind, 1)]})
		}
	}
	return out
}

// others are trees that may be, like another one but for one thing.
func others(x api.Tree) []api.Tree {
	var out []api.Tree
	for i, n := range x.Nodes {
		for _, change := range []func(n *api.Node){
			func(n *api.Node) { n.Mode ^= 0o100 },
			func(n *api.Node) { n.Owner ^= 1 },
			func(n *api.Node) { n.Time ^= 1 },
			func(n *api.Node) { n.Data += "x" },
			func(n *api.Node) { n.Data = "e" },
			func(n *api.Node) { n.Data = "" },
			func(n *api.Node) { n.Kind, n.Data = api.Sym, "e" },
			func(n *api.Node) { n.Kind = api.File },
			func(n *api.Node) { n.Kind, n.Data = api.Dir, "" },
		} {
			y := clone(x)
			change(&y.Nodes[i])
			out = append(out, y)
		}
		if n.Kind == api.Dir {
			out = append(out, entered(x, i)...)
		}
	}
	y := clone(x)
	y.Last += 7
	out = append(out, y)
	for i := range out {
		out[i] = swept(out[i])
	}
	return slices.DeleteFunc(out, func(y api.Tree) bool { return tree.Check(y) != api.OK })
}

// swept is a tree without the nodes that no way leads to.
func swept(x api.Tree) api.Tree {
	met := map[int]int{}
	var meet func(id int)
	meet = func(id int) {
		n, _ := tree.Get(x, id)
		if met[id]++; met[id] == 1 {
			for _, e := range n.Entries {
				meet(e.Node)
			}
		}
	}
	meet(1)
	x.Nodes = slices.DeleteFunc(slices.Clone(x.Nodes), func(n api.Node) bool { return met[n.ID] == 0 })
	return x
}

// done is what calls on a tree answer, one by one.
func done(t *testing.T, x api.Tree, l []acts.Act) []string {
	t.Helper()
	f, _, e := vtree.Open(x, 5)
	if e != api.OK {
		t.Fatal(e)
	}
	var out []string
	for _, a := range l {
		out = append(out, a.Do(f))
	}
	return out
}

// agree makes calls above a tree, and tells on how many of some others all its facts are true: there the same calls answer the same.
func agree(t *testing.T, x api.Tree, l []acts.Act, among []api.Tree) int {
	t.Helper()
	f, o, _ := Open(x, 5)
	var want []string
	for _, a := range l {
		want = append(want, a.Do(f))
	}
	facts, agreed := o.Facts(), 0
	for _, y := range among {
		if !allSame(facts, x, y) {
			continue
		}
		agreed++
		if got := done(t, y, l); !slices.Equal(got, want) {
			t.Fatalf("%v = %q; with %+v, of which all facts are true, %q: %v", l, want, y, got, facts)
		}
	}
	return agreed
}

// P6.5: one call, and any other tree that differs in one thing.
func TestAgreeOne(t *testing.T) {
	paths := []string{"/", "/d/", "/d/d", "/e", "/f", "/d/f", "/l", "/l/f", "/e/l", "/x"}
	for _, room := range []api.Room{wide, {Nodes: 12, Bytes: 24}} {
		x := acts.Tree(room)
		among := others(x)
		agreed := map[bool]int{}
		for _, a := range acts.On(paths) {
			n := agree(t, x, []acts.Act{a}, among)
			// What a call didn't see may be otherwise: there is always something.
			if n == 0 {
				t.Error(a, "agrees with none")
			}
			agreed[n == len(among)]++
		}
		// Most calls see something that isn't so in every tree.
		if agreed[false] < agreed[true] {
			t.Error(agreed)
		}
	}
}

// P6.5: some calls, and any other tree that differs in one thing or two.
func TestAgreeSome(t *testing.T) {
	agreed := 0
	for run := range 60 {
		x := acts.Tree(api.Room{Nodes: 12 + run%4, Bytes: 22 + 2*(run%5)})
		among := others(x)
		if y := among[run*37%len(among)]; run%2 == 1 {
			among = others(y)
		}
		for k := range 4 {
			agreed += agree(t, x, acts.Some(acts.Near(), uint64(run*100+k), 3+run%20), among)
		}
	}
	if agreed < 1000 {
		t.Error("too few trees agree:", agreed)
	}
}

// P6.5: what calls note is what their answers, and what they leave, hang on.
func TestFactsOfCalls(t *testing.T) {
	for _, c := range []struct {
		a    acts.Act
		want []api.Fact
	}{
		{acts.Act{Call: "Read", P: "/f"}, []api.Fact{{Kind: 1, Node: 1, Name: "f", To: 7}, {Kind: 3, Node: 7}, {Kind: 6, Node: 1}, {Kind: 6, Node: 7}}},
		{acts.Act{Call: "Read", P: "/none"}, []api.Fact{{Kind: 1, Node: 1, Name: "none"}, {Kind: 6, Node: 1}}},
		{acts.Act{Call: "List", P: "/e"}, []api.Fact{{Kind: 1, Node: 1, Name: "e", To: 8}, {Kind: 2, Node: 8}, {Kind: 6, Node: 1}, {Kind: 6, Node: 8}}},
		{acts.Act{Call: "Stat", P: "/"}, []api.Fact{{Kind: 3, Node: 1}, {Kind: 4, Node: 1}}},
		{acts.Act{Call: "Mkdir", P: "/x", N: 0}, []api.Fact{{Kind: 1, Node: 1, Name: "x"}, {Kind: 3, Node: 1}, {Kind: 5}, {Kind: 6, Node: 1}}},
		{acts.Act{Call: "Unlink", P: "/n"}, []api.Fact{{Kind: 1, Node: 1, Name: "n", To: 12}, {Kind: 3, Node: 1}, {Kind: 3, Node: 12}, {Kind: 4, Node: 12}, {Kind: 6, Node: 1}, {Kind: 6, Node: 12}}},
		{acts.Act{Call: "Rmdir", P: "/e"}, []api.Fact{{Kind: 1, Node: 1, Name: "e", To: 8}, {Kind: 2, Node: 8}, {Kind: 3, Node: 1}, {Kind: 3, Node: 8}, {Kind: 4, Node: 8}, {Kind: 6, Node: 1}, {Kind: 6, Node: 8}}},
		{acts.Act{Call: "Mkdir", P: "/x", N: -1}, nil},
	} {
		f, o, _ := Open(usual(), 0)
		c.a.Do(f)
		if got := o.Facts(); !slices.Equal(got, c.want) {
			t.Error(c.a, got)
		}
	}
}

// P6.5: the example of the chapter.
func TestExample(t *testing.T) {
	f, o, _ := Open(api.Tree{Nodes: []api.Node{dir(1, to("a", 2)), file(2, "x")}, Last: 2}, 0)
	want := []api.Fact{{Kind: api.FactEntry, Node: 1, Name: "a", To: 2}, {Kind: api.FactNode, Node: 2}, {Kind: api.FactKind, Node: 1}, {Kind: api.FactKind, Node: 2}}
	if s, e := f.Read("/a"); s != "x" || e != api.OK || !slices.Equal(o.Facts(), want) {
		t.Error(s, e, o.Facts())
	}
}
