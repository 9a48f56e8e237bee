package tree

import (
	"math"
	"slices"
	"strings"
	"testing"

	"rehearsal/api"
	"rehearsal/path"
	"rehearsal/short"
)

// signs is a text of one sign, n times.
func signs(n int) string { return strings.Repeat("x", n) }

// chain is a tree of n directories, each in the one ahead of it, under names of 64 bytes.
func chain(n int) api.Tree {
	var l []api.Node
	for i := range n {
		l = append(l, dir(i+1, to(signs(64), i+2)))
	}
	l[n-1].Entries = nil
	return of(l...)
}

// flat is a tree of n nodes: a root, and files in it.
func flat(n int) api.Tree {
	names := short.Texts("abcdefghijklmnopqrstuvwxyz", 2)[1:n]
	slices.Sort(names)
	l := []api.Node{dir(1)}
	for i, name := range names {
		l[0].Entries = append(l[0].Entries, to(name, i+2))
		l = append(l, file(i+2, ""))
	}
	return of(l...)
}

func check(t *testing.T, what string, y api.Tree, may bool) {
	t.Helper()
	want := api.ErrTree
	if may {
		want = api.OK
	}
	if got := Check(y); got != want {
		t.Errorf("%s: %d", what, got)
	}
	// Canon, Path and Same ask the same.
	c, e := Canon(y)
	p, ok := Path(y, 1)
	if e != want || ok != may || Same(y, y) != may {
		t.Errorf("%s: Canon, Path, Same: %d %v %v", what, e, ok, Same(y, y))
	}
	if !may && (!equal(c, api.Tree{}) || p != "") {
		t.Errorf("%s: %v %q", what, c, p)
	}
}

// P4.1: 1 to 512 nodes.
func TestCheckCounts(t *testing.T) {
	check(t, "none", api.Tree{}, false)
	check(t, "none, with a last number", api.Tree{Last: 5, Nodes: []api.Node{}}, false)
	for n, may := range map[int]bool{1: true, 2: true, 511: true, 512: true, 513: false, 600: false} {
		check(t, "flat", flat(n), may)
		check(t, "chain", chain(n), may)
	}
	// How many entries there are is nowhere bounded.
	var l []api.Entry
	for a := range 100 {
		for b := range 100 {
			l = append(l, to("n"+string([]byte{byte(a + 100), byte(b + 100)}), 2))
		}
	}
	check(t, "many entries", of(dir(1, l...), file(2, "")), true)
}

// P4.1: numbers rise from the root's to the last one at most.
func TestCheckNumbers(t *testing.T) {
	two := func(a, b, last int) api.Tree {
		y := of(dir(a, to("a", b)), file(b, ""))
		y.Last = last
		return y
	}
	for _, c := range []struct {
		what       string
		a, b, last int
		may        bool
	}{
		{"one behind the other", 1, 2, 2, true},
		{"a last number that no node has", 1, 2, 3, true},
		{"numbers left out", 1, 9, 9, true},
		{"great ones", 1, 1 << 40, 1 << 40, true},
		{"the greatest one", 1, math.MaxInt, math.MaxInt, true},
		{"beyond the last one", 1, 2, 1, false},
		{"far beyond it", 1, 1 << 40, 1<<40 - 1, false},
		{"a last number of 0", 1, 2, 0, false},
		{"a last number below 0", 1, 2, -1, false},
		{"one twice", 1, 1, 2, false},
		{"falling", 1, 0, 2, false},
		{"below 0", 1, -1, 2, false},
		{"a root 0", 0, 1, 2, false},
		{"a root 2", 2, 3, 3, false},
		{"a root below 0", -1, 1, 1, false},
		{"the least numbers", math.MinInt, math.MinInt + 1, 5, false},
	} {
		check(t, c.what, two(c.a, c.b, c.last), c.may)
	}
	alone := New(api.Room{})
	for last, may := range map[int]bool{0: false, -1: false, 1: true, 2: true, math.MaxInt: true, math.MinInt: false} {
		alone.Last = last
		check(t, "a root alone", alone, may)
	}
	check(t, "two that fall, behind the root", of(dir(1, to("a", 2), to("b", 3)), file(3, ""), file(2, "")), false)
	check(t, "one twice, behind the root", of(dir(1, to("a", 2)), file(2, ""), file(2, "")), false)
	check(t, "the root not first", of(file(2, ""), dir(1, to("a", 2))), false)
}

// P4.1: the first node is a directory.
func TestCheckRoot(t *testing.T) {
	check(t, "a file", of(file(1, "")), false)
	check(t, "a symbolic link", of(sym(1, "a")), false)
	check(t, "a file with entries", of(api.Node{ID: 1, Kind: api.File, Entries: []api.Entry{to("a", 2)}}, file(2, "")), false)
	check(t, "no kind", of(api.Node{ID: 1}), false)
	check(t, "a directory", of(dir(1)), true)
}

// P4.1: how much room a tree has plays no part.
func TestCheckRoom(t *testing.T) {
	for _, room := range []api.Room{{}, {Nodes: -1, Bytes: -1}, {Nodes: 1}, {Nodes: math.MaxInt, Bytes: math.MinInt}} {
		y := usual()
		y.Room = room
		check(t, "room", y, true)
	}
}

// P4.1: mode, owner and time are in their bounds, of each kind of node, the root not left out.
func TestCheckBounds(t *testing.T) {
	for _, c := range []struct {
		what string
		set  func(n *api.Node, to int)
		most int
	}{
		{"Mode", func(n *api.Node, to int) { n.Mode = to }, 0o777},
		{"Owner", func(n *api.Node, to int) { n.Owner = to }, 65535},
		{"Time", func(n *api.Node, to int) { n.Time = to }, 1 << 40},
	} {
		for i := range usual().Nodes {
			for value, may := range map[int]bool{0: true, 1: true, c.most - 1: true, c.most: true, c.most + 1: false, -1: false, math.MinInt: false, math.MaxInt: false, math.MinInt + c.most: false} {
				y := usual()
				c.set(&y.Nodes[i], value)
				check(t, c.what, y, may)
			}
		}
	}
	y := usual()
	y.Nodes[2].Mode = 0o1000
	check(t, "Mode 1000", y, false)
}

// P4.1: what data and entries a node of each kind has.
func TestCheckKinds(t *testing.T) {
	node := func(kind int, data string, l ...api.Entry) api.Node {
		return api.Node{ID: 2, Kind: kind, Data: data, Entries: l}
	}
	for _, c := range []struct {
		what string
		n    api.Node
		may  bool
	}{
		{"an empty file", node(api.File, ""), true},
		{"a file", node(api.File, "a\x00\xff\n"), true},
		{"a file of 4095 bytes", node(api.File, signs(4095)), true},
		{"a file of 4096 bytes", node(api.File, signs(4096)), true},
		{"a file of 4097 bytes", node(api.File, signs(4097)), false},
		{"a file of 2048 signs of two bytes", node(api.File, strings.Repeat("é", 2048)), true},
		{"a file of 4096 signs of two bytes", node(api.File, strings.Repeat("é", 4096)), false},
		{"a file with an entry", node(api.File, "a", to("a", 3)), false},
		{"an empty file with an entry", node(api.File, "", to("a", 3)), false},
		{"a file with no entries, but a list", node(api.File, "a", []api.Entry{}...), true},
		{"a link to nothing", node(api.Sym, ""), false},
		{"a link of a byte", node(api.Sym, "a"), true},
		{"a link to itself", node(api.Sym, "/a"), true},
		{"a link of 255 bytes", node(api.Sym, signs(255)), true},
		{"a link of 256 bytes", node(api.Sym, signs(256)), true},
		{"a link of 257 bytes", node(api.Sym, signs(257)), false},
		{"a link of a byte 0", node(api.Sym, "\x00"), false},
		{"a link with a byte 0 first", node(api.Sym, "\x00a"), false},
		{"a link with a byte 0 last", node(api.Sym, "a\x00"), false},
		{"a link with a byte 0 last of 256", node(api.Sym, signs(255)+"\x00"), false},
		{"a link of other bytes", node(api.Sym, "\x01\xff\n//. "), true},
		{"a link with an entry", node(api.Sym, "a", to("a", 3)), false},
		{"an empty directory", node(api.Dir, ""), true},
		{"a directory with an entry", node(api.Dir, "", to("a", 3)), true},
		{"a directory with data", node(api.Dir, "a"), false},
		{"a directory with a byte 0 as data", node(api.Dir, "\x00"), false},
		{"a directory with data and an entry", node(api.Dir, "a", to("a", 3)), false},
		{"no kind", node(0, ""), false},
		{"a kind 4", node(4, ""), false},
		{"a kind 4 with data", node(4, "a"), false},
		{"a kind below 0", node(-1, ""), false},
		{"a kind below 0 with an entry", node(-1, "", to("a", 3)), false},
	} {
		check(t, c.what, of(dir(1, to("a", 2), to("b", 3)), c.n, file(3, "")), c.may)
	}
}

// P4.1, P4.2: entries rise by their names, and these may be.
func TestEntries(t *testing.T) {
	for _, c := range []struct {
		names []string
		want  bool
	}{
		{nil, true},
		{[]string{"a"}, true},
		{[]string{"a", "b"}, true},
		{[]string{"b", "a"}, false},
		{[]string{"a", "a"}, false},
		{[]string{"a", "b", "b"}, false},
		{[]string{"a", "c", "b"}, false},
		{[]string{"c", "a", "b"}, false},
		{[]string{"A", "a"}, true},
		{[]string{"a", "A"}, false},
		{[]string{"a", "a!", "a-", "ab"}, true},
		{[]string{"ab", "a"}, false},
		{[]string{"10", "9"}, true},
		{[]string{"9", "10"}, false},
		{[]string{"\x01", "a", "\x7f", "\x80", "é", "\xff"}, true},
		{[]string{"\x80", "\x7f"}, false},
		{[]string{"\xff", "\x01"}, false},
		{[]string{"..."}, true},
		{[]string{""}, false},
		{[]string{"."}, false},
		{[]string{".."}, false},
		{[]string{"", "a"}, false},
		{[]string{".", "a"}, false},
		{[]string{"..", "a"}, false},
		{[]string{"a", "b/c"}, false},
		{[]string{"/a", "b"}, false},
		{[]string{"a", "b\x00"}, false},
		{[]string{"\x00", "b"}, false},
		{[]string{"a", signs(64)}, true},
		{[]string{"a", signs(65)}, false},
		{[]string{signs(63), signs(64)}, true},
		{[]string{signs(64), signs(63)}, false},
	} {
		var l []api.Entry
		for _, name := range c.names {
			l = append(l, to(name, 2))
		}
		if got := Entries(l); got != c.want {
			t.Errorf("Entries(%q) = %v", c.names, got)
		}
		if len(l) > 0 {
			check(t, "entries "+strings.Join(c.names, " "), of(dir(1, l...), file(2, "")), c.want)
			check(t, "entries within "+strings.Join(c.names, " "), of(dir(1, to("a", 2), to("d", 3)), file(2, ""), dir(3, l...)), c.want)
		}
	}
	// Where entries lead to plays no part.
	if !Entries([]api.Entry{to("a", 0), to("b", -1), to("c", math.MaxInt)}) {
		t.Error("where entries lead to plays a part")
	}
}

// P4.2: all pairs of short names, by the document's words.
func TestEntriesAll(t *testing.T) {
	l := append(short.Texts("a./\x00", 3), signs(64), signs(65))
	for _, a := range l {
		for _, b := range l {
			if got := Entries([]api.Entry{to(a, 2), to(b, 2)}); got != (path.Name(a) && path.Name(b) && strings.Compare(a, b) < 0) {
				t.Errorf("Entries(%q, %q) = %v", a, b, got)
			}
		}
	}
}

// P4.1: where entries lead to.
func TestCheckLeads(t *testing.T) {
	check(t, "to no node", of(dir(1, to("a", 2))), false)
	check(t, "to no node, below the last number", of(dir(1, to("a", 2), to("b", 3)), file(3, "")), false)
	check(t, "to 0", of(dir(1, to("a", 0))), false)
	check(t, "to below 0", of(dir(1, to("a", -1))), false)
	check(t, "to the greatest number", of(dir(1, to("a", math.MaxInt))), false)
	check(t, "to the root, from itself", of(dir(1, to("a", 1))), false)
	check(t, "to the root, from within", of(dir(1, to("a", 2)), dir(2, to("a", 1))), false)
	check(t, "to a directory twice, from one", of(dir(1, to("a", 2), to("b", 2)), dir(2)), false)
	check(t, "to a directory twice, from two", of(dir(1, to("a", 2), to("b", 3)), dir(2), dir(3, to("a", 2))), false)
	check(t, "to a directory from itself, too", of(dir(1, to("a", 2)), dir(2, to("a", 2))), false)
	check(t, "to a directory from within, too", of(dir(1, to("a", 2)), dir(2, to("a", 3)), dir(3, to("a", 2))), false)
	check(t, "to a file twice, from one", of(dir(1, to("a", 2), to("b", 2)), file(2, "")), true)
	check(t, "to a file twice, from two", of(dir(1, to("a", 2), to("b", 3)), file(2, ""), dir(3, to("a", 2))), true)
	check(t, "to a link twice", of(dir(1, to("a", 2), to("b", 2)), sym(2, "a")), true)
	check(t, "to a node of a lesser number", of(dir(1, to("a", 5)), file(2, ""), dir(5, to("a", 2))), true)
	check(t, "to a file thrice, and to a directory twice", of(dir(1, to("a", 2), to("b", 2), to("c", 2), to("d", 3), to("e", 3)), file(2, ""), dir(3)), false)
}

// P4.1: a way leads from the root to each node.
func TestCheckReached(t *testing.T) {
	check(t, "a file that nothing leads to", of(dir(1), file(2, "")), false)
	check(t, "a directory that nothing leads to", of(dir(1, to("a", 3)), dir(2), file(3, "")), false)
	check(t, "a link that nothing leads to", of(dir(1), sym(2, "a")), false)
	check(t, "a directory in itself", of(dir(1), dir(2, to("a", 2))), false)
	check(t, "a ring of two", of(dir(1), dir(2, to("a", 3)), dir(3, to("a", 2))), false)
	check(t, "a ring of three, with a file that is reached", of(dir(1, to("a", 5)), dir(2, to("a", 3)), dir(3, to("a", 4), to("b", 5)), dir(4, to("a", 2)), file(5, "")), false)
	check(t, "a ring with a tail", of(dir(1), dir(2, to("a", 3)), dir(3, to("a", 2), to("b", 4)), dir(4)), false)
	check(t, "a file in a directory that nothing leads to", of(dir(1), dir(2, to("a", 3)), file(3, "")), false)
	check(t, "a file in such a one, and elsewhere", of(dir(1, to("a", 3)), dir(2, to("a", 3)), file(3, "")), false)
	far := chain(512)
	far.Nodes[300].Entries = nil
	check(t, "a chain that is cut", far, false)
	far.Nodes[511].Entries = []api.Entry{to("a", 302)}
	check(t, "a chain that is cut, and a ring behind it", far, false)
	far.Nodes[300].Entries = []api.Entry{to("a", 512)}
	check(t, "a chain that is cut, and put together otherwise", far, false)
	far.Nodes[510].Entries = nil
	check(t, "a chain from 301 to 512 to 302", far, true)
}

// mayPlainly tells whether a tree of nodes that may be may be, by the document's words; what is reached is marked till nothing changes.
func mayPlainly(t api.Tree) bool {
	if len(t.Nodes) < 1 || len(t.Nodes) > 512 || t.Nodes[0].ID != 1 || t.Nodes[0].Kind != 1 {
		return false
	}
	has, led := map[int]api.Node{}, map[int]int{}
	for i, n := range t.Nodes {
		if n.ID > t.Last || i > 0 && n.ID <= t.Nodes[i-1].ID {
			return false
		}
		has[n.ID] = n
		for _, x := range n.Entries {
			led[x.Node]++
		}
	}
	for id, n := range led {
		if has[id].Kind == 0 || id == 1 || has[id].Kind == 1 && n != 1 {
			return false
		}
	}
	reached := map[int]int{1: 1}
	for range t.Nodes {
		for _, n := range t.Nodes {
			for _, x := range n.Entries {
				reached[x.Node] = max(reached[x.Node], reached[n.ID])
			}
		}
	}
	for _, n := range t.Nodes {
		if reached[n.ID] == 0 {
			return false
		}
	}
	return true
}

// small goes through all trees with nodes of some numbers, each a directory with none, one or both of two names, that lead to some numbers, or a file, or a link.
func small(ids, leads []int, do func(t api.Tree)) {
	var some []api.Node
	for _, a := range append([]int{math.MinInt}, leads...) {
		for _, b := range append([]int{math.MinInt}, leads...) {
			var l []api.Entry
			if a != math.MinInt {
				l = append(l, to("a", a))
			}
			if b != math.MinInt {
				l = append(l, to("b", b))
			}
			some = append(some, dir(0, l...))
		}
	}
	some = append(some, file(0, ""), sym(0, "a"))
	var fill func(l []api.Node)
	fill = func(l []api.Node) {
		if len(l) == len(ids) {
			do(of(append([]api.Node(nil), l...)...))
			return
		}
		for _, n := range some {
			n.ID = ids[len(l)]
			fill(append(l, n))
		}
	}
	fill(nil)
}

// P4.1: all small trees, by the document's words; those whose numbers may not be among them.
func TestCheckAll(t *testing.T) {
	may, not := 0, 0
	hold := func(y api.Tree) {
		want := api.OK
		if !mayPlainly(y) {
			want = api.ErrTree
			not++
		} else {
			may++
		}
		if got := Check(y); got != want {
			t.Errorf("Check(%v) = %d", y, got)
		}
	}
	small([]int{1, 3, 7}, []int{1, 3, 5, 7}, hold)
	small([]int{1, 2, 5, 9}, []int{2, 5, 9}, hold)
	for _, ids := range [][]int{{1, 7, 3}, {3, 1, 7}, {1, 1, 3}, {1, 3, 3}, {0, 1, 3}, {-1, 0, 1}} {
		small(ids, ids, hold)
	}
	if may < 300 || not < 100000 {
		t.Error(may, not)
	}
}

// P4.1 to P4.4: every call ends, and none panics, of any tree.
func TestWrong(t *testing.T) {
	call := func(y api.Tree) {
		if Check(y) == api.OK {
			return
		}
		if c, e := Canon(y); e != api.ErrTree || !equal(c, api.Tree{}) {
			t.Errorf("Canon(%v) = %v, %d", y, c, e)
		}
		for id := -1; id < 9; id++ {
			if p, ok := Path(y, id); p != "" || ok {
				t.Errorf("Path(%v, %d) = %q, %v", y, id, p, ok)
			}
			Get(y, id)
			Links(y, id)
		}
		for _, n := range y.Nodes {
			Entries(n.Entries)
			Child(n, "a")
			if !SameNode(n, n) {
				t.Error(n)
			}
		}
		n, _ := Usage(y)
		if n != len(y.Nodes) || Same(y, y) || Same(y, usual()) || Same(usual(), y) {
			t.Error(y)
		}
	}
	for _, ids := range [][]int{nil, {1}, {0}, {1, 2}, {2, 1}, {2, 3}, {1, 1}, {0, 0}, {-1, 1}, {1, 3, 2}, {2, 1, 1}} {
		small(ids, []int{0, 1, 2}, call)
	}
	// Names that fall, stand twice, or may not be.
	for _, l := range [][]api.Entry{{to("b", 2), to("a", 2)}, {to("a", 2), to("a", 3)}, {to("", 2)}, {to("a/", 1), to("", 0), to(".", 5)}} {
		call(of(dir(1, l...), dir(2, l...), file(3, "")))
		call(of(api.Node{ID: 1, Kind: 9, Mode: -1, Data: signs(9999), Entries: l}))
	}
	call(api.Tree{Nodes: make([]api.Node, 100000)})
}
