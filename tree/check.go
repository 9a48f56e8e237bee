package tree

import (
	"strings"

	"rehearsal/api"
	"rehearsal/path"
)

// The greatest mode and owner that a node may have.
const (
	maxMode  = 0o777
	maxOwner = 65535
)

// Check tells whether a tree may be.
func Check(t api.Tree) api.Errno {
	// Each question rests on those ahead of it: the way is gone only where there are few nodes, found by their numbers.
	if !numbered(t) || !nodesMay(t.Nodes) || !led(t) || !reached(t) {
		return api.ErrTree
	}
	return api.OK
}

// numbered tells whether there are nodes, not too many, their numbers rising from the root's to the last one at most.
func numbered(t api.Tree) bool {
	if len(t.Nodes) < 1 || len(t.Nodes) > api.MaxNodes || t.Nodes[0].ID != root || t.Nodes[0].Kind != api.Dir {
		return false
	}
	for i, n := range t.Nodes {
		if n.ID > t.Last || i > 0 && n.ID <= t.Nodes[i-1].ID {
			return false
		}
	}
	return true
}

// nodesMay tells whether every one of some nodes may be.
func nodesMay(l []api.Node) bool {
	for _, n := range l {
		if !within(n.Mode, maxMode) || !within(n.Owner, maxOwner) || !within(n.Time, api.MaxTime) || !holds(n) {
			return false
		}
	}
	return true
}

// within tells whether a number is from 0 to the greatest one that may be.
func within(n, most int) bool {
	return n >= 0 && n <= most
}

// holds tells whether a node has the data and entries that one of its kind may have.
func holds(n api.Node) bool {
	switch n.Kind {
	case api.Dir:
		return n.Data == "" && Entries(n.Entries)
	case api.File:
		return len(n.Data) <= api.MaxData && len(n.Entries) == 0
	case api.Sym:
		return n.Data != "" && len(n.Data) <= api.MaxPath && strings.IndexByte(n.Data, 0) < 0 && len(n.Entries) == 0
	}
	return false
}

// Entries tells whether entries rise by their names, and these may be.
func Entries(l []api.Entry) bool {
	for i, x := range l {
		if !path.Name(x.Name) || i > 0 && x.Name <= l[i-1].Name {
			return false
		}
	}
	return true
}

// led tells whether each entry leads to a node, none to the root, and no two to one directory.
func led(t api.Tree) bool {
	met := map[int]int{}
	for _, n := range t.Nodes {
		for _, x := range n.Entries {
			at, ok := find(t, x.Node)
			met[x.Node]++
			if !ok || x.Node == root || t.Nodes[at].Kind == api.Dir && met[x.Node] > 1 {
				return false
			}
		}
	}
	return true
}

// reached tells whether a way of entries leads from the root to each node.
func reached(t api.Tree) bool {
	l, _ := way(t)
	return len(l) == len(t.Nodes)
}
