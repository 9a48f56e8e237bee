package vtree

import (
	"cmp"
	"slices"
	"sort"

	"rehearsal/api"
	"rehearsal/tree"
)

// Disk is a store of nodes alone.
type Disk struct {
	nodes map[int]api.Node
	last  int
	room  api.Room
}

// NewDisk makes a store of a tree.
func NewDisk(t api.Tree) (*Disk, api.Errno) {
	if e := tree.Check(t); e != api.OK {
		return nil, e
	}
	d := &Disk{nodes: map[int]api.Node{}, last: t.Last, room: t.Room}
	for _, n := range t.Nodes {
		n.Entries = slices.Clone(n.Entries)
		d.nodes[n.ID] = n
	}
	return d, api.OK
}

// none tells whether no call made the disk.
func (d *Disk) none() bool {
	return d == nil || d.nodes == nil
}

// node tells a node, with the entries as they lie there; a zero one, if it is not there.
func (d *Disk) node(id int) api.Node {
	if d.none() {
		return api.Node{}
	}
	return d.nodes[id]
}

// Kind tells a node's kind.
func (d *Disk) Kind(id int) int {
	return d.node(id).Kind
}

// Node tells a node, without its entries.
func (d *Disk) Node(id int) api.Node {
	n := d.node(id)
	n.Entries = nil
	return n
}

// Entry tells the node that a name leads to; 0: none.
func (d *Disk) Entry(dir int, name string) int {
	id, _ := tree.Child(d.node(dir), name)
	return id
}

// Entries tells all names of a directory.
func (d *Disk) Entries(dir int) []api.Entry {
	return slices.Clone(d.node(dir).Entries)
}

// Links tells how many names lead to a node.
func (d *Disk) Links(id int) int {
	links := 0
	if d.none() {
		return links
	}
	for _, n := range d.nodes {
		for _, x := range n.Entries {
			if x.Node == id {
				links++
			}
		}
	}
	return links
}

// Usage tells how many nodes and bytes there are.
func (d *Disk) Usage() (int, int) {
	bytes := 0
	if d.none() {
		return 0, bytes
	}
	for _, n := range d.nodes {
		bytes += len(n.Data)
	}
	return len(d.nodes), bytes
}

// Room tells how many nodes and bytes there may be.
func (d *Disk) Room() api.Room {
	if d.none() {
		return api.Room{}
	}
	return d.room
}

// Fresh tells a number that no node had.
func (d *Disk) Fresh() int {
	if d.none() {
		return 0
	}
	return d.last + 1
}

// Put lays a node down; its entries stay.
func (d *Disk) Put(n api.Node) {
	if d.none() {
		return
	}
	n.Entries = d.nodes[n.ID].Entries
	d.nodes[n.ID] = n
	d.last = max(d.last, n.ID)
}

// Bind lets a name lead to a node; to none, if that is 0.
func (d *Disk) Bind(dir int, name string, id int) {
	if d.none() {
		return
	}
	if n, ok := d.nodes[dir]; ok {
		n.Entries = Bound(n.Entries, name, id)
		d.nodes[dir] = n
	}
}

// Bound tells entries in which a name leads to a node; to none, if that is 0.
func Bound(l []api.Entry, name string, id int) []api.Entry {
	at := sort.Search(len(l), func(i int) bool { return l[i].Name >= name })
	behind := at
	if at < len(l) && l[at].Name == name {
		behind++
	}
	out := slices.Clone(l[:at])
	if id != 0 {
		out = append(out, api.Entry{Name: name, Node: id})
	}
	return append(out, l[behind:]...)
}

// Drop takes a node away.
func (d *Disk) Drop(id int) {
	if d.none() {
		return
	}
	delete(d.nodes, id)
}

// Tree tells the tree.
func (d *Disk) Tree() api.Tree {
	if d.none() {
		return api.Tree{}
	}
	t := api.Tree{Last: d.last, Room: d.room}
	for _, n := range d.nodes {
		n.Entries = slices.Clone(n.Entries)
		t.Nodes = append(t.Nodes, n)
	}
	slices.SortFunc(t.Nodes, func(a, b api.Node) int { return cmp.Compare(a.ID, b.ID) })
	return t
}
