package tree

import (
	"slices"

	"rehearsal/api"
)

// meeting is where a node is first met on the way through a tree: which of the tree's nodes, behind which meeting, under which name.
type meeting struct {
	node int
	from int
	name string
}

// way goes through a tree, all of whose entries lead to nodes, from its root on: the meetings in order, and which of them is that of a node's number.
func way(t api.Tree) ([]meeting, map[int]int) {
	var l []meeting
	met := map[int]int{}
	var meet func(id, from int, name string)
	meet = func(id, from int, name string) {
		if _, again := met[id]; again {
			return
		}
		node, _ := find(t, id)
		here := len(l)
		met[id] = here
		l = append(l, meeting{node, from, name})
		for _, x := range t.Nodes[node].Entries {
			meet(x.Node, here, x.Name)
		}
	}
	meet(root, 0, "")
	return l, met
}

// names are those on the way to a meeting.
func names(l []meeting, at int) []string {
	var back []string
	for ; at > 0; at = l[at].from {
		back = append(back, l[at].name)
	}
	slices.Reverse(back)
	return back
}
