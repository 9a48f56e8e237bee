package acts

import (
	"slices"
	"strings"
	"testing"

	"rehearsal/api"
	"rehearsal/tree"
	"rehearsal/vtree"
)

// calls are those of Files that go a path.
const calls = "Stat Read Target List Write Mkdir Symlink Link Rmdir Unlink Rename Chmod Touch"

// Tests of the layers rest on it that no kind of call is left out, and that calls come to something, as well as to errors.
func TestOn(t *testing.T) {
	done := map[string]int{}
	for _, a := range On(Paths()) {
		f, _, e := vtree.Open(Tree(api.Room{Nodes: 99, Bytes: 99}), 0)
		if e != api.OK {
			t.Fatal(e)
		}
		answer := a.Do(f)
		if answer == "6" {
			t.Fatal("no such call:", a)
		}
		if answer == "0" || strings.HasPrefix(answer, "0 / ") {
			done[a.Call]++
		} else {
			done["not "+a.Call]++
		}
	}
	for _, call := range strings.Fields(calls) {
		if done[call] == 0 || done["not "+call] == 0 {
			t.Error(call, done[call], done["not "+call])
		}
	}
	if len(done) != 26 {
		t.Error(done)
	}
}

// What is told is all that was answered.
func TestDo(t *testing.T) {
	f, _, _ := vtree.Open(Tree(api.Room{}), 0)
	for _, c := range []struct {
		a    Act
		want string
	}{
		{Act{"Stat", "/f", "", 0}, "0 / 2 / 384 / 65535 / 1099511627776 / 3 / 2"},
		{Act{"Stat", "/d/l", "", 0}, "0 / 3 / 511 / 0 / 0 / 4 / 1"},
		{Act{"Stat", "/d/l", "", 1}, "0 / 2 / 384 / 65535 / 1099511627776 / 3 / 2"},
		{Act{"Read", "/f", "", 0}, "0 / hi\x00"},
		{Act{"Target", "/d/l", "", 0}, "0 / ../f"},
		{Act{"List", "/d", "", 0}, "0 / d / f / l / u"},
		{Act{"List", "/f", "", 0}, "22"},
		{Act{"Symlink", "/e/x", "", 0}, "28"},
		{Act{"Write", "/f", "no", 3}, "21"},
		{Act{"None", "/f", "", 0}, "6"},
	} {
		if got := c.a.Do(f); got != c.want {
			t.Error(c.a, got)
		}
	}
}

// The same seed chooses the same acts, another one others, and all kinds come.
func TestSome(t *testing.T) {
	l := Some(Near(), 1, 500)
	if len(l) != 500 || !slices.Equal(l, Some(Near(), 1, 500)) || slices.Equal(l, Some(Near(), 2, 500)) || len(Some(nil, 1, 5)) != 0 {
		t.Error(len(l))
	}
	met := map[string]int{}
	for _, a := range l {
		met[a.Call]++
	}
	for _, call := range strings.Fields(calls) {
		if met[call] < 20 {
			t.Error(call, met[call])
		}
	}
}

// The tree may be, and has nodes of all kinds.
func TestTree(t *testing.T) {
	x := Tree(api.Room{Nodes: 1, Bytes: 2})
	kinds := map[int]int{}
	for _, n := range x.Nodes {
		kinds[n.Kind]++
	}
	if tree.Check(x) != api.OK || x.Room != (api.Room{Nodes: 1, Bytes: 2}) || len(kinds) != 3 {
		t.Error(x)
	}
}
