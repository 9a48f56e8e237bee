package over

import (
	"fmt"
	"math"
	"slices"
	"testing"

	"rehearsal/acts"
	"rehearsal/api"
	"rehearsal/tree"
	"rehearsal/vtree"
)

var _ vtree.Store = (*Over)(nil)

// ask is something asked of a store: what it answers (as fmt has it), and the facts that are noted then.
type ask struct {
	do    func() any
	want  string
	facts []api.Fact
}

// answer asks one by one, and holds the answers and the facts against what is wanted. The facts ahead are those noted already.
func answer(t *testing.T, o *Over, l []ask) {
	t.Helper()
	for i, x := range l {
		was := o.Facts()
		got := fmt.Sprint(x.do())
		if got != x.want {
			t.Errorf("%d: %s, not %s", i, got, x.want)
		}
		// Asked once more, nothing is new.
		if again := fmt.Sprint(x.do()); again != got {
			t.Errorf("%d: %s, then %s", i, got, again)
		}
		fresh := slices.DeleteFunc(o.Facts(), func(x api.Fact) bool { return slices.Contains(was, x) })
		if !slices.Equal(fresh, x.facts) {
			t.Errorf("%d notes %v, not %v", i, fresh, x.facts)
		}
	}
}

// fact is a list of one fact.
func fact(kind, node int) []api.Fact { return []api.Fact{{Kind: kind, Node: node}} }

// leads is the fact of a name.
func leads(node int, name string, to int) []api.Fact {
	return []api.Fact{{Kind: api.FactEntry, Node: node, Name: name, To: to}}
}

// P6.2: what is answered of a tree above which nothing is, and what is noted.
func TestBelow(t *testing.T) {
	o := made(t)
	answer(t, o, []ask{
		{func() any { return o.Kind(1) }, "1", fact(api.FactKind, 1)},
		{func() any { return o.Kind(7) }, "2", fact(api.FactKind, 7)},
		{func() any { return o.Kind(14) }, "3", fact(api.FactKind, 14)},
		{func() any { return o.Node(1) }, "{1 1 493 0 0  []}", fact(api.FactNode, 1)},
		{func() any { return o.Node(7) }, "{7 2 384 65535 1099511627776 hi\x00 []}", fact(api.FactNode, 7)},
		{func() any { return o.Entry(1, "f") }, "7", leads(1, "f", 7)},
		{func() any { return o.Entry(3, "f") }, "7", leads(3, "f", 7)},
		{func() any { return o.Entry(1, "ff") }, "0", leads(1, "ff", 0)},
		{func() any { return o.Entry(8, "") }, "0", leads(8, "", 0)},
		{func() any { return o.Entries(3) }, "[{d 4} {f 7} {l 10} {u 11}]", fact(api.FactList, 3)},
		{func() any { return o.Entries(8) }, "[]", fact(api.FactList, 8)},
		{func() any { return o.Links(7) }, "2", fact(api.FactLinks, 7)},
		{func() any { return o.Links(3) }, "1", fact(api.FactLinks, 3)},
		{func() any { return o.Links(1) }, "0", fact(api.FactLinks, 1)},
		{func() any { n, b := o.Usage(); return []int{n, b} }, "[12 23]", fact(api.FactUsage, 0)},
		{func() any { return o.Room() }, "{1000 1048576}", nil},
		{func() any { return o.Tree().Last }, "20", nil},
	})
}

// P6.2: a node that was put is as it was put last, and nothing of it is seen below but its kind, names and links.
func TestPut(t *testing.T) {
	o := made(t)
	answer(t, o, []ask{
		{func() any { o.Put(file(7, "one")); return o.Node(7) }, "{7 2 384 0 0 one []}", nil},
		{func() any { o.Put(file(7, "three")); return o.Node(7) }, "{7 2 384 0 0 three []}", nil},
		{func() any { return o.Kind(7) }, "2", fact(api.FactKind, 7)},
		{func() any { return o.Links(7) }, "2", fact(api.FactLinks, 7)},
		{func() any { n, b := o.Usage(); return []int{n, b} }, "[12 25]", fact(api.FactUsage, 0)},
		{func() any { o.Put(dir(3, to("no", 5))); return o.Node(3) }, "{3 1 493 0 0  []}", nil},
		{func() any { return o.Entry(3, "no") }, "0", leads(3, "no", 0)},
		{func() any { return o.Entry(3, "l") }, "10", leads(3, "l", 10)},
		{func() any { return o.Entries(3) }, "[{d 4} {f 7} {l 10} {u 11}]", fact(api.FactList, 3)},
		{func() any { return o.Tree().Last }, "20", nil},
	})
	if n := o.Lower().Nodes; n[4].Data != "hi\x00" || n[1].Mode != 0o755 {
		t.Error(n)
	}
}

// P6.2: of a node that was made above nothing is noted.
func TestPutFresh(t *testing.T) {
	o := made(t)
	answer(t, o, []ask{
		{func() any { o.Put(dir(21, to("no", 5))); return o.Tree().Last }, "21", nil},
		{func() any { return o.Kind(21) }, "1", nil},
		{func() any { return o.Node(21) }, "{21 1 493 0 0  []}", nil},
		{func() any { return o.Entry(21, "no") }, "0", nil},
		{func() any { return o.Entries(21) }, "[]", nil},
		{func() any { return o.Links(21) }, "0", nil},
		{func() any { o.Bind(1, "new", 21); return o.Links(21) }, "1", nil},
		{func() any { o.Put(file(22, "12345")); return o.Tree().Last }, "22", nil},
		{func() any { o.Bind(21, "b", 22); return o.Entry(21, "b") }, "22", nil},
		{func() any { o.Bind(21, "a", 7); return o.Entries(21) }, "[{a 7} {b 22}]", nil},
		{func() any { return o.Links(7) }, "3", fact(api.FactLinks, 7)},
		{func() any { o.Bind(21, "b", 0); return o.Entries(21) }, "[{a 7}]", nil},
		{func() any { return o.Entry(21, "b") }, "0", nil},
		{func() any { return o.Links(22) }, "0", nil},
		{func() any { n, b := o.Usage(); return []int{n, b} }, "[14 28]", fact(api.FactUsage, 0)},
		{func() any { o.Drop(22); return o.Node(22) }, "{0 0 0 0 0  []}", nil},
		{func() any { n, b := o.Usage(); return []int{n, b} }, "[13 23]", nil},
		{func() any { return o.Tree().Last }, "22", nil},
		{func() any { o.Put(file(40, "")); return o.Tree().Last }, "40", nil},
	})
	if x := o.Lower(); !equal(x, usual()) {
		t.Error(x)
	}
}

// P6.2: a name that was bound leads to what it was bound to last, and is not seen below, whatever it led to there.
func TestBind(t *testing.T) {
	o := made(t)
	answer(t, o, []ask{
		{func() any { o.Bind(3, "l", 5); return o.Entry(3, "l") }, "5", nil},
		{func() any { o.Bind(3, "l", 7); return o.Entry(3, "l") }, "7", nil},
		{func() any { o.Bind(3, "f", 7); return o.Entry(3, "f") }, "7", nil},
		{func() any { o.Bind(3, "u", 0); return o.Entry(3, "u") }, "0", nil},
		{func() any { o.Bind(3, "none", 0); return o.Entry(3, "none") }, "0", nil},
		{func() any { o.Bind(3, "e", 5); return o.Entry(3, "e") }, "5", nil},
		{func() any { return o.Entries(3) }, "[{d 4} {e 5} {f 7} {l 7}]", fact(api.FactList, 3)},
		{func() any { return o.Links(7) }, "3", fact(api.FactLinks, 7)},
		{func() any { return o.Links(11) }, "0", fact(api.FactLinks, 11)},
		{func() any { return o.Links(10) }, "0", fact(api.FactLinks, 10)},
		{func() any { return o.Links(5) }, "2", fact(api.FactLinks, 5)},
		{func() any { return o.Links(0) }, "0", nil},
		{func() any { o.Bind(3, "u", 11); return o.Entry(3, "u") }, "11", nil},
		{func() any { o.Bind(3, "u", 0); return o.Entry(3, "u") }, "0", nil},
		// What a name leads to in one directory plays no part in another one.
		{func() any { return o.Entry(1, "l") }, "9", leads(1, "l", 9)},
		{func() any { return o.Entry(4, "e") }, "0", leads(4, "e", 0)},
	})
	if n, _ := tree.Get(o.Tree(), 3); fmt.Sprint(n.Entries) != "[{d 4} {e 5} {f 7} {l 7}]" {
		t.Error(n)
	}
	if n, _ := tree.Get(o.Lower(), 3); fmt.Sprint(n.Entries) != "[{d 4} {f 7} {l 10} {u 11}]" {
		t.Error(n)
	}
}

// P6.2: a node below that is dropped was seen whole, one that was put as well.
func TestDrop(t *testing.T) {
	o := made(t)
	answer(t, o, []ask{
		{func() any { o.Drop(8); return o.Kind(8) }, "0", fact(api.FactNode, 8)},
		{func() any { o.Put(file(7, "x")); o.Drop(7); return o.Node(7) }, "{0 0 0 0 0  []}", fact(api.FactNode, 7)},
		{func() any { n, b := o.Usage(); return []int{n, b} }, "[10 20]", fact(api.FactUsage, 0)},
		{func() any { o.Bind(4, "x", 5); o.Drop(4); return o.Entries(4) }, "[]", fact(api.FactNode, 4)},
		{func() any { return o.Entry(4, "g") }, "0", nil},
		// What a directory had that is there no more leads to nothing.
		{func() any { return o.Links(5) }, "0", fact(api.FactLinks, 5)},
		{func() any { return o.Tree().Last }, "20", nil},
	})
	if x := o.Tree(); len(x.Nodes) != 9 || x.Last != 20 {
		t.Error(x)
	}
	if !equal(o.Lower(), usual()) {
		t.Error(o.Lower())
	}
}

// fresh asks for a number, and holds it, and the greatest one given behind that, against what is wanted.
func fresh(t *testing.T, o *Over, want int) {
	t.Helper()
	was := o.Facts()
	if id := o.Fresh(); id != want || o.Tree().Last != want {
		t.Errorf("Fresh = %d, then Last %d, not %d", id, o.Tree().Last, want)
	}
	if !slices.Equal(o.Facts(), was) || !equal(o.Lower(), usual()) {
		t.Error("Fresh is seen below", o.Facts(), o.Lower())
	}
}

// P6.2, P6.3: a number is given by Fresh, whether a node is put with it or not, and none is given twice.
func TestFresh(t *testing.T) {
	o, other := made(t), made(t)
	if n := o.Tree().Last; n != 20 {
		t.Error(n)
	}
	for id := 21; id < 30; id++ {
		fresh(t, o, id)
	}
	if !slices.EqualFunc(o.Tree().Nodes, usual().Nodes, tree.SameNode) {
		t.Error("Fresh changes nodes", o.Tree())
	}
	// A number that was given, or was there already, is put: nothing is given by that.
	o.Put(file(29, ""))
	fresh(t, o, 30)
	o.Put(file(25, ""))
	o.Put(file(7, ""))
	fresh(t, o, 31)
	// One that is greater than those given is given by Put.
	o.Put(file(33, ""))
	if n := o.Tree().Last; n != 33 {
		t.Error(n)
	}
	fresh(t, o, 34)
	// Nodes that are there no more, and names, take no number back.
	o.Bind(1, "x", 33)
	o.Bind(1, "x", 0)
	for _, id := range []int{33, 29, 25, 7} {
		o.Drop(id)
	}
	fresh(t, o, 35)
	// What one store gave plays no part in another one.
	fresh(t, other, 21)
}

// P6.2, P6.3: what calls of Files make has the number behind the greatest one given; calls that make nothing, or have no room for it, give none.
func TestFreshOfCalls(t *testing.T) {
	for given := range 4 {
		f, o, _ := Open(acts.Tree(api.Room{Nodes: 13, Bytes: 99}), 0)
		for range given {
			o.Fresh()
		}
		f.Read("/f")
		f.Write("/f", "y", api.Append)
		f.Rename("/f", "/y")
		f.Mkdir("/e", 0)
		if n := o.Tree().Last; n != 20+given {
			t.Error(given, n)
		}
		f.Mkdir("/x", 0)
		if id := o.Entry(1, "x"); id != 21+given || o.Tree().Last != id {
			t.Error(given, id, o.Tree().Last)
		}
		if e := f.Mkdir("/z", 0); e != api.NoSpace || o.Tree().Last != 21+given {
			t.Error(given, e, o.Tree().Last)
		}
		if x := o.Tree(); tree.Check(x) != api.OK || o.Lower().Last != 20 {
			t.Error(given, x)
		}
	}
}

// P6.2: what is asked of a node that is not seen has no answer, and no fact; nothing is bound in it.
func TestNotSeen(t *testing.T) {
	o := made(t)
	for _, id := range []int{0, 2, 6, 20, 21, -1, math.MinInt, math.MaxInt} {
		o.Bind(id, "a", 3)
		o.Bind(id, "a", 0)
		o.Drop(id)
		if o.Kind(id) != 0 || !tree.SameNode(o.Node(id), api.Node{}) || o.Entry(id, "a") != 0 || len(o.Entries(id)) != 0 || o.Links(id) != 0 {
			t.Error(id, o.Node(id))
		}
	}
	if l := o.Facts(); len(l) != 0 || !equal(o.Tree(), usual()) {
		t.Error(l, o.Tree())
	}
	// A number that is put once more, behind a Drop, has nothing below it.
	d, _ := vtree.NewDisk(usual())
	for _, s := range []vtree.Store{o, d} {
		s.Bind(1, "d", 0)
		s.Bind(3, "n", 7)
		s.Drop(3)
		s.Put(dir(3))
		s.Bind(3, "m", 5)
		if s.Entry(3, "f") != 0 || s.Entry(3, "n") != 0 || fmt.Sprint(s.Entries(3)) != "[{m 5}]" {
			t.Error(s.Entries(3))
		}
	}
	if !equal(o.Tree(), d.Tree()) || !slices.Equal(o.Facts(), fact(api.FactNode, 3)) {
		t.Error(o.Tree(), o.Facts())
	}
}

// P6.2: a store may be spoilt by calls on what isn't seen, or may not be: what is called on it then tells nothing that is promised, but comes to an end.
func TestSpoilt(t *testing.T) {
	for _, spoil := range []func(o *Over){
		func(o *Over) { o.Drop(1) },
		func(o *Over) { o.Drop(3) },
		func(o *Over) { o.Put(file(1, "root")) },
		func(o *Over) { o.Put(api.Node{ID: 1, Kind: api.Sym, Data: "d"}) },
		func(o *Over) { o.Put(api.Node{ID: 9, Kind: api.Sym}) },
		func(o *Over) { o.Put(api.Node{ID: 3, Kind: 4, Mode: -1}) },
		func(o *Over) { o.Put(file(math.MaxInt, "")) },
		func(o *Over) { o.Put(file(math.MinInt, "")) },
		func(o *Over) { o.Bind(3, "d", 1) },
		func(o *Over) { o.Bind(3, "d", 3) },
		func(o *Over) { o.Bind(1, "x", 99) },
		func(o *Over) { o.Bind(1, "", -1) },
		func(o *Over) { o.Bind(7, "x", 1) },
		func(o *Over) { o.Entry(7, "x/"); o.Entries(7); o.Drop(7); o.Put(dir(7)) },
	} {
		for _, a := range acts.On(acts.Paths()[2:24]) {
			f, o, _ := Open(usual(), 0)
			spoil(o)
			a.Do(f)
			a.Do(vtree.New(o, 0))
			o.Tree()
			if !equal(o.Lower(), usual()) || !allSame(o.Facts(), usual(), usual()) {
				t.Fatal(a, o.Lower(), o.Facts())
			}
		}
	}
}

// notes is what is to be noted, by the words: the numbers below, what was put and bound, and the facts.
type notes struct {
	below api.Tree
	put   map[int]int
	bound map[api.Entry]int
	facts map[api.Fact]int
}

func (w *notes) of(kind, id int) {
	if _, ok := tree.Get(w.below, id); ok {
		w.facts[api.Fact{Kind: kind, Node: id}]++
	}
}

// hold asks a store and a disk the same of all nodes that are seen, and of some names.
func (w *notes) hold(t *testing.T, o *Over, d *vtree.Disk, turn func(int) int) {
	t.Helper()
	w.facts[api.Fact{Kind: api.FactUsage}]++
	n, b := o.Usage()
	if m, c := d.Usage(); n != m || b != c || o.Room() != d.Room() || !equal(o.Tree(), d.Tree()) {
		t.Fatalf("%+v is %+v on a disk", o.Tree(), d.Tree())
	}
	seen := d.Tree().Nodes
	id := seen[turn(len(seen))].ID
	switch turn(5) {
	case 0:
		w.of(api.FactKind, id)
		if o.Kind(id) != d.Kind(id) {
			t.Fatal(id, o.Kind(id), d.Kind(id))
		}
	case 1:
		if w.put[id] == 0 {
			w.of(api.FactNode, id)
		}
		if !tree.SameNode(o.Node(id), d.Node(id)) {
			t.Fatal(id, o.Node(id), d.Node(id))
		}
	case 2:
		w.of(api.FactLinks, id)
		if o.Links(id) != d.Links(id) {
			t.Fatal(id, o.Links(id), d.Links(id))
		}
	case 3:
		w.of(api.FactList, id)
		if !slices.Equal(o.Entries(id), d.Entries(id)) {
			t.Fatal(id, o.Entries(id), d.Entries(id))
		}
	case 4:
		name := "abcdefglu"[turn(9):][:1]
		if n, ok := tree.Get(w.below, id); ok && w.bound[to(name, id)] == 0 {
			leads, _ := tree.Child(n, name)
			w.facts[api.Fact{Kind: api.FactEntry, Node: id, Name: name, To: leads}]++
		}
		if o.Entry(id, name) != d.Entry(id, name) {
			t.Fatal(id, name, o.Entry(id, name), d.Entry(id, name))
		}
	}
}

// change makes one change, the same on a store and a disk.
func (w *notes) change(t *testing.T, o *Over, d *vtree.Disk, turn func(int) int) {
	t.Helper()
	seen := d.Tree().Nodes
	n, m := seen[turn(len(seen))], seen[turn(len(seen))]
	switch turn(4) {
	case 0:
		n.Time, n.Entries = turn(100), nil
		if n.Kind != api.Dir {
			n.Data = "abcdefgh"[turn(8):]
		}
		w.put[n.ID]++
		o.Put(n)
		d.Put(n)
	case 1:
		id := o.Fresh()
		if id != d.Fresh() {
			t.Fatal(id, d.Fresh())
		}
		x := api.Node{ID: id + turn(2), Kind: 1 + turn(3), Data: "new"}
		w.put[x.ID]++
		o.Put(x)
		d.Put(x)
	case 2:
		name := "abcdefglu"[turn(9):][:1]
		id := m.ID * min(turn(3), 1)
		w.bound[to(name, n.ID)]++
		o.Bind(n.ID, name, id)
		d.Bind(n.ID, name, id)
	case 3:
		if n.ID == 1 || turn(3) > 0 {
			return
		}
		w.of(api.FactNode, n.ID)
		o.Drop(n.ID)
		d.Drop(n.ID)
	}
}

// P6.2, P6.4: long runs of the store's calls, asked of nodes that are seen: as a disk of the same tree; and the facts that the words ask for, no others.
func TestAsDisk(t *testing.T) {
	seed := uint64(1)
	turn := func(n int) int {
		seed = seed*6364136223846793005 + 1442695040888963407
		return int(seed>>33) % n
	}
	for range 60 {
		o, _ := New(usual())
		d, _ := vtree.NewDisk(usual())
		w := &notes{usual(), map[int]int{}, map[api.Entry]int{}, map[api.Fact]int{}}
		for range 300 {
			w.change(t, o, d, turn)
			w.hold(t, o, d, turn)
			facts := o.Facts()
			if len(facts) != len(w.facts) || slices.ContainsFunc(facts, func(x api.Fact) bool { return w.facts[x] == 0 }) {
				t.Fatal(facts, w.facts)
			}
		}
		if !equal(o.Lower(), usual()) {
			t.Fatal(o.Lower())
		}
	}
}
