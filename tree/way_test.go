package tree

import (
	"math"
	"slices"
	"strings"
	"testing"

	"rehearsal/api"
)

// arrival is a way of names that leads to a node.
type arrival struct {
	names []string
	id    int
}

// arrivals are all ways of names in a tree that may be, sorted name by name: on the way through it, what is ahead stands first.
func arrivals(t api.Tree) []arrival {
	l := []arrival{{nil, 1}}
	for at := 0; at < len(l); at++ {
		for _, n := range t.Nodes {
			if n.ID != l[at].id {
				continue
			}
			for _, x := range n.Entries {
				l = append(l, arrival{append(slices.Clone(l[at].names), x.Name), x.Node})
			}
		}
	}
	slices.SortFunc(l, func(a, b arrival) int { return slices.Compare(a.names, b.names) })
	return l
}

// pathsPlainly are the first paths to the nodes of a tree, and their numbers, in order.
func pathsPlainly(t api.Tree) (map[int]string, []int) {
	paths, order := map[int]string{}, []int{}
	for _, a := range arrivals(t) {
		if paths[a.id] != "" {
			continue
		}
		order = append(order, a.id)
		for _, name := range a.names {
			paths[a.id] += "/" + name
		}
		if len(a.names) == 0 {
			paths[a.id] = "/"
		}
	}
	return paths, order
}

// canonPlainly numbers nodes by the order of their first paths.
func canonPlainly(t api.Tree) api.Tree {
	_, order := pathsPlainly(t)
	c := api.Tree{Last: len(order), Room: t.Room}
	for i, id := range order {
		n := t.Nodes[slices.IndexFunc(t.Nodes, func(n api.Node) bool { return n.ID == id })]
		n.ID = i + 1
		n.Entries = slices.Clone(n.Entries)
		for k, x := range n.Entries {
			n.Entries[k].Node = slices.Index(order, x.Node) + 1
		}
		c.Nodes = append(c.Nodes, n)
	}
	return c
}

// some goes through trees that may be: all small ones, and some with more in them.
func some(do func(t api.Tree)) {
	may := func(t api.Tree) {
		if mayPlainly(t) {
			do(t)
		}
	}
	small([]int{1, 3, 7}, []int{3, 7}, may)
	small([]int{1, 2, 5, 9}, []int{2, 5, 9}, may)
	for _, t := range []api.Tree{usual(), New(api.Room{Nodes: 3, Bytes: 5}), flat(200), chain(40), twisted()} {
		do(t)
	}
}

// twisted is a tree whose nodes are met in another order than that of their numbers, of their paths as texts, and of how deep they lie.
func twisted() api.Tree {
	return of(
		dir(1, to("a", 80), to("a!", 4), to("b", 30), to("c", 2), to("é", 5)),
		file(2, "2"),
		file(3, "3"),
		dir(4, to("z", 2)),
		sym(5, "5"),
		file(6, "2"),
		dir(30, to("a", 3), to("b", 6), to("c", 2)),
		dir(80, to("a", 90), to("x", 3)),
		dir(90, to("\xff", 6)),
	)
}

// P4.3: the names on the way to where a node is met first.
func TestPath(t *testing.T) {
	for _, c := range []struct {
		y     api.Tree
		paths map[int]string
	}{
		{New(api.Room{}), map[int]string{1: "/"}},
		{of(dir(1, to("a", 5), to("b", 5)), file(5, "")), map[int]string{1: "/", 5: "/a"}},
		{usual(), map[int]string{1: "/", 3: "/d", 4: "/d/e", 7: "/b", 9: "/d/s"}},
		// A node is met deep down ahead of a name in the root that comes later.
		{of(dir(1, to("a", 3), to("b", 2)), file(2, ""), dir(3, to("z", 2))), map[int]string{2: "/a/z", 3: "/a"}},
		{twisted(), map[int]string{80: "/a", 90: "/a/a", 6: "/a/a/\xff", 3: "/a/x", 4: "/a!", 2: "/a!/z", 30: "/b", 5: "/é"}},
	} {
		for id, want := range c.paths {
			if p, ok := Path(c.y, id); p != want || !ok {
				t.Errorf("Path(%d) = %q, %v, not %q", id, p, ok, want)
			}
		}
		for _, id := range []int{math.MinInt, -1, 0, 8, 91, math.MaxInt} {
			if p, ok := Path(c.y, id); p != "" || ok {
				t.Errorf("Path(%d) = %q, %v", id, p, ok)
			}
		}
	}
}

// P4.3: a path may be far longer than one that is gone.
func TestPathLong(t *testing.T) {
	y := chain(512)
	for _, n := range []int{1, 2, 5, 511} {
		if p, ok := Path(y, n+1); p != strings.Repeat("/"+signs(64), n) || !ok {
			t.Error(n, len(p), ok)
		}
	}
}

// P4.3: nodes are numbered as they are met, and all else stays.
func TestCanon(t *testing.T) {
	got, e := Canon(usual())
	want := of(
		dir(1, to("b", 2), to("d", 3), to("z", 2)),
		file(2, "hi\x00"),
		dir(3, to("a", 2), to("e", 4), to("s", 5)),
		dir(4),
		sym(5, "../b"),
	)
	if e != api.OK || !equal(got, want) || got.Last != 5 {
		t.Error(got, e)
	}
	y := usual()
	for i := range y.Nodes {
		y.Nodes[i].Mode, y.Nodes[i].Owner, y.Nodes[i].Time = 0o700+i, 10+i, 20+i
	}
	y.Room = api.Room{Nodes: -5, Bytes: 1 << 50}
	got, _ = Canon(y)
	for i, was := range []int{0, 3, 1, 2, 4} {
		n := y.Nodes[was]
		if m := got.Nodes[i]; m.ID != i+1 || m.Kind != n.Kind || m.Mode != n.Mode || m.Owner != n.Owner || m.Time != n.Time || m.Data != n.Data {
			t.Error(m, n)
		}
	}
	if got.Room != y.Room {
		t.Error(got.Room)
	}
	if c, _ := Canon(New(api.Room{Nodes: 2})); !equal(c, New(api.Room{Nodes: 2})) {
		t.Error(c)
	}
	two, _ := Canon(of(dir(1, to("a", 5), to("b", 5)), file(5, "x")))
	if !equal(two, of(dir(1, to("a", 2), to("b", 2)), file(2, "x"))) {
		t.Error(two)
	}
}

// P4.3: paths and numbers of all small trees, by the document's words.
func TestWayAll(t *testing.T) {
	some(func(y api.Tree) {
		got, e := Canon(y)
		if want := canonPlainly(y); e != api.OK || !equal(got, want) {
			t.Errorf("Canon(%v) = %v, %d", y, got, e)
		}
		paths, _ := pathsPlainly(y)
		for id, want := range paths {
			if p, ok := Path(y, id); p != want || !ok {
				t.Errorf("Path(%v, %d) = %q, %v", y, id, p, ok)
			}
		}
	})
	big := chain(512)
	if c, e := Canon(big); e != api.OK || !equal(c, big) {
		t.Error(e)
	}
}

// P4.3: what was told is new memory, list by list.
func TestCanonNew(t *testing.T) {
	y := spare(usual())
	got, _ := Canon(y)
	for i := range got.Nodes {
		got.Nodes[i].Entries = append(got.Nodes[i].Entries, to("more", 9))
	}
	for i, n := range got.Nodes {
		if k := len(n.Entries) - 1; n.Entries[k] != to("more", 9) || k > 0 && n.Entries[0].Name == "more" {
			t.Error(i, n.Entries)
		}
	}
	spoil(got.Nodes)
	if !keeps(y, usual()) {
		t.Error("Canon shares what it tells")
	}
}

// described is all that can be seen of a tree without the numbers of nodes: each way of names, what is there, and by which way it was met first.
func described(t api.Tree) string {
	paths, _ := pathsPlainly(t)
	s := ""
	for _, a := range arrivals(t) {
		n, _ := Get(t, a.id)
		s += "/" + strings.Join(a.names, "/") + " " + "?dfs"[n.Kind:n.Kind+1] + n.Data + " " + paths[a.id] + "\n"
	}
	return s
}

// P4.4, P4.5: trees are the same just if they are seen to be alike, whatever the numbers of nodes are.
func TestSameAll(t *testing.T) {
	kinds := map[string]api.Tree{}
	some(func(y api.Tree) {
		s := described(y)
		if other, ok := kinds[s]; !ok {
			kinds[s] = y
		} else if !Same(y, other) || !Same(other, y) {
			t.Error("not the same:", y, other)
		}
	})
	if len(kinds) < 100 {
		t.Error(len(kinds))
	}
	for s, a := range kinds {
		for r, b := range kinds {
			if Same(a, b) != (s == r) {
				t.Error("Same:", a, b)
			}
		}
	}
}

// P4.5: Canon of Canon is it, may be, and is the same.
func TestCanonTwice(t *testing.T) {
	some(func(y api.Tree) {
		one, _ := Canon(y)
		two, e := Canon(one)
		if e != api.OK || !equal(one, two) || Check(one) != api.OK || !Same(one, y) {
			t.Error(y, one, two)
		}
		if n, b := Usage(y); len(one.Nodes) != n || one.Last != n {
			t.Error(n, b, one)
		}
	})
}

// P4.5: a node's first path leads to it, name by name; every node but the root has a link.
func TestPathLeads(t *testing.T) {
	some(func(y api.Tree) {
		for _, n := range y.Nodes {
			p, ok := Path(y, n.ID)
			id := 1
			for _, name := range strings.Split(p, "/") {
				at, there := Get(y, id)
				if name == "" {
					continue
				}
				id, ok = Child(at, name)
				if !ok || !there {
					t.Errorf("%v: %q ends ahead of %q", y, p, name)
				}
			}
			if id != n.ID || !ok {
				t.Errorf("%v: %q leads to %d, not to %d", y, p, id, n.ID)
			}
			links := Links(y, n.ID)
			if (links == 0) != (n.ID == 1) || n.Kind == api.Dir && links > 1 {
				t.Errorf("%v: %d links of %d", y, links, n.ID)
			}
		}
	})
}
