package vtree

import (
	"testing"

	"rehearsal/api"
	"rehearsal/tree"
)

// P5.5: what Rmdir and Unlink refuse, the first error first.
func TestTakeErrors(t *testing.T) {
	for p, want := range map[string][2]api.Errno{
		"/": {28, 28}, "/.": {28, 28}, "/..": {28, 28}, "/d/.": {28, 28}, "/d/..": {28, 28}, "/r/": {28, 28}, "/e/.": {28, 28}, "/e/../": {28, 28},
		"/none": {20, 20}, "/none/": {20, 20}, "/n/": {20, 20}, "/none/x": {20, 20}, "": {20, 20}, "/none/.": {20, 20},
		"/d": {24, 23}, "/d/": {24, 23}, "/l/": {24, 23}, "/d/u/": {24, 23}, "/e": {0, 23}, "/e/": {0, 23}, "/d/../e": {0, 23},
		"/f": {22, 0}, "/l": {22, 0}, "/n": {22, 0}, "/s": {22, 0}, "/r": {22, 0}, "/d/f": {22, 0}, "/l/l": {22, 0}, "/f/": {22, 22}, "/f/x": {22, 22},
		"/s/": {25, 25}, "e": {28, 28}, "/e\x00": {28, 28}, "/" + signs(65): {26, 26},
	} {
		for i, call := range []string{"Rmdir", "Unlink"} {
			play(t, open(t, usual(), 5), []step{{act{call, p, "", 0}, "", want[i]}})
		}
	}
}

// P5.5: a node is there until its last name is taken away; the time of the directory is now, that of the node stays.
func TestLastName(t *testing.T) {
	f, d, _ := Open(usual(), 50)
	if f.Unlink("/f") != api.OK || info(t, f, "/").Time != 51 || info(t, f, "/d").Time != 0 {
		t.Error(d.Tree())
	}
	if i := info(t, f, "/d/f"); i != (api.Info{Kind: 2, Mode: 0o600, Owner: 65535, Time: 1 << 40, Size: 3, Links: 1}) {
		t.Error(i)
	}
	if s, e := f.Read("/d/f"); s != "hi\x00" || e != api.OK {
		t.Error(s, e)
	}
	nodes, _ := d.Usage()
	if f.Unlink("/l/f") != api.OK || info(t, f, "/").Time != 51 || info(t, f, "/d").Time != 52 || f.Clock() != 52 {
		t.Error(d.Tree())
	}
	if _, ok := tree.Get(d.Tree(), 7); ok {
		t.Error("a node without a name is there")
	}
	if n, bytes := d.Usage(); n != nodes-1 || bytes != 4+1+4+5+4+1+1 {
		t.Error(n, bytes)
	}
	if f.Rmdir("/e") != api.OK || d.Kind(8) != 0 || d.Tree().Last != 20 || info(t, f, "/").Time != 53 {
		t.Error(d.Tree())
	}
	// What is emptied may go.
	for _, e := range []api.Errno{f.Unlink("/d/d/g"), f.Rmdir("/d/u/"), f.Unlink("/d/u"), f.Unlink("/d/l"), f.Rmdir("/l/")} {
		if e != api.OK {
			t.Error(e)
		}
	}
	if i := info(t, f, "/l"); i.Kind != api.Sym {
		t.Error(i)
	}
}

// P5.6: what Rename refuses, the first error first.
func TestRenameErrors(t *testing.T) {
	for _, c := range []struct {
		from, to string
		want     api.Errno
	}{
		// from: as Rmdir, whatever to is.
		{"", "", 20}, {"f", "/x", 28}, {"/f/", "/x", 22}, {"/f/x", "x", 22}, {"/s/", "/x", 25}, {"/" + signs(65), "", 26},
		{"/", "/x", 28}, {"/d/..", "", 28}, {"/r/", "/x", 28}, {"/d/.", "/f/x", 28}, {"/none", "/", 20}, {"/n/", "x", 20}, {"/none", "/f/x", 20},
		// to: its path, and its name.
		{"/f", "", 20}, {"/f", "x", 28}, {"/f", "/x/y", 20}, {"/f", "/f/x", 22}, {"/f", "/d/l/", 22}, {"/f", "/s/x", 25}, {"/f", "/" + signs(65), 26},
		{"/f", "/", 28}, {"/f", "/d/.", 28}, {"/d", "/d/..", 28}, {"/d", "/d/d/..", 28}, {"/f", "/r/", 28}, {"/d", "/none/..", 20},
		// Into itself, and below.
		{"/d", "/d/x", 28}, {"/d", "/d/x/", 28}, {"/d", "/d/d", 28}, {"/d", "/d/f", 28}, {"/d", "/d/d/x", 28}, {"/d", "/d/d/g", 28}, {"/l/", "/l/d/x", 28}, {"/e", "/e/x", 28}, {"/d", "/e/../d/x", 28}, {"/d", "/d/u/x", 28},
		// A directory onto something else, or something else onto one, or with a / at its end.
		{"/d", "/f", 22}, {"/d", "/n", 22}, {"/d", "/l", 22}, {"/e", "/d/f", 22}, {"/e", "/s", 22},
		{"/f", "/x/", 22}, {"/l", "/x/", 22}, {"/f", "/n/", 22}, {"/f", "/d/x/", 22},
		{"/f", "/d", 23}, {"/f", "/e", 23}, {"/f", "/e/", 23}, {"/l", "/e", 23}, {"/l", "/d/", 23}, {"/f", "/l/", 23}, {"/d/d/g", "/d", 23},
		// A directory onto one that is not empty.
		{"/e", "/d", 24}, {"/e", "/l/", 24}, {"/d/d", "/d", 24}, {"/e", "/d/u/", 24}, {"/e", "/d/d/", 24},
	} {
		f, d, _ := Open(usual(), 3)
		if e := f.Rename(c.from, c.to); e != c.want || !equal(d.Tree(), usual()) || f.Clock() != 3 {
			t.Errorf("Rename(%.20q, %.20q) = %d, %d", c.from, c.to, e, f.Clock())
		}
	}
}

// P5.6: nothing is done where both names lead to one node.
func TestRenameOnto(t *testing.T) {
	for _, c := range [][2]string{
		{"/f", "/f"}, {"/f", "/d/f"}, {"/d/f", "/f"}, {"/d", "/d"}, {"/d", "/d/"}, {"/d/", "/d"}, {"/l", "/l"}, {"/n", "/n"}, {"/d", "/l/"}, {"/l/f", "/f"}, {"/e/", "/d/../e"}, {"/d/d", "/d/u/"},
	} {
		f, d, _ := Open(usual(), 3)
		if e := f.Rename(c[0], c[1]); e != api.OK || !equal(d.Tree(), usual()) || f.Clock() != 3 {
			t.Errorf("Rename(%q, %q) = %d, %d", c[0], c[1], e, f.Clock())
		}
	}
}

// P5.6: names lead elsewhere, and the times of both directories are now, those of all others stay.
func TestRename(t *testing.T) {
	for _, c := range []struct {
		from, to string
		node     int
		// gone is the node that is there no more.
		gone int
		// changed are the entries of each directory behind it.
		changed map[int][]api.Entry
	}{
		{"/f", "/x", 7, 0, map[int][]api.Entry{1: {to("d", 3), to("e", 8), to("l", 9), to("n", 12), to("r", 13), to("s", 14), to("x", 7)}}},
		{"/f", "/e/f", 7, 0, map[int][]api.Entry{1: {to("d", 3), to("e", 8), to("l", 9), to("n", 12), to("r", 13), to("s", 14)}, 8: {to("f", 7)}}},
		{"/d/d/g", "/f", 5, 0, map[int][]api.Entry{1: {to("d", 3), to("e", 8), to("f", 5), to("l", 9), to("n", 12), to("r", 13), to("s", 14)}, 4: nil}},
		{"/f", "/d/d/g", 7, 5, map[int][]api.Entry{1: {to("d", 3), to("e", 8), to("l", 9), to("n", 12), to("r", 13), to("s", 14)}, 4: {to("g", 7)}}},
		{"/f", "/n", 7, 12, map[int][]api.Entry{1: {to("d", 3), to("e", 8), to("l", 9), to("n", 7), to("r", 13), to("s", 14)}}},
		{"/l", "/d/f", 9, 0, map[int][]api.Entry{1: {to("d", 3), to("e", 8), to("f", 7), to("n", 12), to("r", 13), to("s", 14)}, 3: {to("d", 4), to("f", 9), to("l", 10), to("u", 11)}}},
		{"/d", "/e", 3, 8, map[int][]api.Entry{1: {to("e", 3), to("f", 7), to("l", 9), to("n", 12), to("r", 13), to("s", 14)}}},
		{"/d/d", "/e/", 4, 8, map[int][]api.Entry{1: {to("d", 3), to("e", 4), to("f", 7), to("l", 9), to("n", 12), to("r", 13), to("s", 14)}, 3: {to("f", 7), to("l", 10), to("u", 11)}}},
		{"/d/", "/e/d/", 3, 0, map[int][]api.Entry{1: {to("e", 8), to("f", 7), to("l", 9), to("n", 12), to("r", 13), to("s", 14)}, 8: {to("d", 3)}}},
		{"/l/", "/n/", 3, 0, map[int][]api.Entry{1: {to("e", 8), to("f", 7), to("l", 9), to("n", 12), to("none", 3), to("r", 13), to("s", 14)}}},
		{"/d/d", "/d/dd", 4, 0, map[int][]api.Entry{3: {to("dd", 4), to("f", 7), to("l", 10), to("u", 11)}}},
	} {
		want := usual()
		for i, n := range want.Nodes {
			if l, ok := c.changed[n.ID]; ok {
				want.Nodes[i].Entries, want.Nodes[i].Time = l, 4
			}
		}
		for i := range want.Nodes {
			if want.Nodes[i].ID == c.gone {
				want.Nodes = append(want.Nodes[:i:i], want.Nodes[i+1:]...)
				break
			}
		}
		f, d, _ := Open(usual(), 3)
		if e := f.Rename(c.from, c.to); e != api.OK || f.Clock() != 4 || !equal(d.Tree(), want) {
			t.Errorf("Rename(%q, %q) = %d, %d: %v", c.from, c.to, e, f.Clock(), d.Tree())
		}
	}
}

// P5.6: a directory that is elsewhere now has another way back.
func TestRenameWayBack(t *testing.T) {
	play(t, open(t, usual(), 0), []step{
		{act{"Rename", "/d/d", "/e/d", 0}, "", api.OK},
		{act{"List", "/e/d/..", "", 0}, "d", api.OK},
		{act{"Rename", "/d", "/e/d/d", 0}, "", api.OK},
		{act{"List", "/e/d/d/../..", "", 0}, "d", api.OK},
		{act{"Rename", "/e", "/e/d/d/e", 0}, "", api.Invalid},
		{act{"Rename", "/e/d", "/e/d/d/e", 0}, "", api.Invalid},
		{act{"Rename", "/e/d/d", "/x", 0}, "", api.OK},
		{act{"Rename", "/e/d", "/x/e", 0}, "", api.OK},
		{act{"Rmdir", "/e", "", 0}, "", api.OK},
		{act{"Read", "/x/e/../e/../e/g", "", 0}, "five", api.OK},
	})
}
