package over

import (
	"cmp"
	"slices"

	"rehearsal/api"
	"rehearsal/tree"
)

// node tells a node as it is seen, without its entries; a zero one, if it is not seen.
func (o *Over) node(id int) api.Node {
	n, above := o.put[id]
	if !above {
		n = o.left[id]
		n.Entries = nil
	}
	return n
}

// seen goes through the nodes that are seen, without their entries, in no order.
func (o *Over) seen(yield func(api.Node) bool) {
	for id := range o.left {
		if !yield(o.node(id)) {
			return
		}
	}
	for id, n := range o.put {
		if _, again := o.left[id]; !again && !yield(n) {
			return
		}
	}
}

// entries tells all names of a directory as they are seen, rising.
func (o *Over) entries(dir int) []api.Entry {
	var l []api.Entry
	bound := o.bound[dir]
	for _, x := range o.left[dir].Entries {
		if _, above := bound[x.Name]; !above {
			l = append(l, x)
		}
	}
	for name, id := range bound {
		if id != 0 {
			l = append(l, api.Entry{Name: name, Node: id})
		}
	}
	slices.SortFunc(l, func(a, b api.Entry) int { return cmp.Compare(a.Name, b.Name) })
	return l
}

// Kind tells a node's kind.
func (o *Over) Kind(id int) int {
	if o.none() {
		return 0
	}
	o.noteNode(api.FactKind, id)
	return o.node(id).Kind
}

// Node tells a node, without its entries.
func (o *Over) Node(id int) api.Node {
	if o.none() {
		return api.Node{}
	}
	if _, above := o.put[id]; !above {
		o.noteNode(api.FactNode, id)
	}
	return o.node(id)
}

// Entry tells the node that a name leads to; 0: none.
func (o *Over) Entry(dir int, name string) int {
	if o.none() {
		return 0
	}
	if id, above := o.bound[dir][name]; above {
		return id
	}
	n, ok := o.left[dir]
	if !ok {
		return 0
	}
	id, _ := tree.Child(n, name)
	o.note(api.Fact{Kind: api.FactEntry, Node: dir, Name: name, To: id})
	return id
}

// Entries tells all names of a directory.
func (o *Over) Entries(dir int) []api.Entry {
	if o.none() {
		return nil
	}
	o.noteNode(api.FactList, dir)
	return o.entries(dir)
}

// Links tells how many names lead to a node.
func (o *Over) Links(id int) int {
	if o.none() {
		return 0
	}
	o.noteNode(api.FactLinks, id)
	links := 0
	for dir, n := range o.left {
		for _, x := range n.Entries {
			if _, above := o.bound[dir][x.Name]; x.Node == id && !above {
				links++
			}
		}
	}
	for _, names := range o.bound {
		for _, to := range names {
			if to == id && to != 0 {
				links++
			}
		}
	}
	return links
}

// Usage tells how many nodes and bytes there are.
func (o *Over) Usage() (int, int) {
	if o.none() {
		return 0, 0
	}
	o.note(api.Fact{Kind: api.FactUsage})
	nodes, bytes := 0, 0
	for n := range o.seen {
		nodes++
		bytes += len(n.Data)
	}
	return nodes, bytes
}

// Room tells how many nodes and bytes there may be.
func (o *Over) Room() api.Room {
	if o.none() {
		return api.Room{}
	}
	return o.below.Room
}

// Fresh gives a number that no node had, and never gives it again, whether a node is put with it or not.
func (o *Over) Fresh() int {
	if o.none() {
		return 0
	}
	id := o.last + 1
	o.give(id)
	return id
}

// give keeps the greatest number given; one that is put may be smaller, and takes nothing back.
func (o *Over) give(id int) {
	o.last = max(o.last, id)
}

// Put lays a node down above; its entries stay.
func (o *Over) Put(n api.Node) {
	if o.none() {
		return
	}
	n.Entries = nil
	o.put[n.ID] = n
	o.give(n.ID)
}

// Bind lets a name lead to a node; to none, if that is 0.
func (o *Over) Bind(dir int, name string, id int) {
	if o.none() {
		return
	}
	_, above := o.put[dir]
	_, below := o.left[dir]
	switch {
	case !above && !below:
		return
	case id == 0 && !below:
		// Nothing lies below it that the name would lead to.
		delete(o.bound[dir], name)
		return
	case o.bound[dir] == nil:
		o.bound[dir] = map[string]int{}
	}
	o.bound[dir][name] = id
}

// Drop takes a node away, for good: one that is put with its number later has nothing below it.
func (o *Over) Drop(id int) {
	if o.none() {
		return
	}
	o.noteNode(api.FactNode, id)
	delete(o.left, id)
	delete(o.put, id)
	delete(o.bound, id)
}
