package vtree

import (
	"math"
	"testing"

	"rehearsal/api"
)

// P5.4: directories, symbolic links and names are made, and have the number, owner and times that they are to have.
func TestMake(t *testing.T) {
	f, d, _ := Open(empty(9, 99), 70)
	for _, e := range []api.Errno{
		f.Mkdir("/d", 0o700), f.Mkdir("/d/e/", 0), f.Mkdir("/d/e/../k", 0o777), f.Symlink("d/none//\xff", "/l"), f.Symlink("/", "/d/r"), f.Write("/d/e/f", "f", 3), f.Link("/d/e/f", "/h"), f.Link("/l", "/d/l"),
	} {
		if e != api.OK {
			t.Error(e)
		}
	}
	want := of(
		api.Node{ID: 1, Kind: 1, Mode: 0o755, Time: 77, Entries: []api.Entry{to("d", 2), to("h", 7), to("l", 5)}},
		api.Node{ID: 2, Kind: 1, Mode: 0o700, Time: 78, Entries: []api.Entry{to("e", 3), to("k", 4), to("l", 5), to("r", 6)}},
		api.Node{ID: 3, Kind: 1, Time: 76, Entries: []api.Entry{to("f", 7)}},
		api.Node{ID: 4, Kind: 1, Mode: 0o777, Time: 73},
		api.Node{ID: 5, Kind: 3, Mode: 0o777, Time: 74, Data: "d/none//\xff"},
		api.Node{ID: 6, Kind: 3, Mode: 0o777, Time: 75, Data: "/"},
		api.Node{ID: 7, Kind: 2, Mode: 0o644, Time: 76, Data: "f"},
	)
	want.Room = api.Room{Nodes: 9, Bytes: 99}
	if !equal(d.Tree(), want) || f.Clock() != 78 {
		t.Error(d.Tree(), f.Clock())
	}
	if info(t, f, "/h").Links != 2 || info(t, f, "/l").Links != 2 || info(t, f, "/d/r").Links != 1 {
		t.Error("names don't count as links")
	}
}

// P5.4: numbers go on from the last one that was given, whether its node is there or not.
func TestMakeNumbers(t *testing.T) {
	x := usual()
	x.Last = 1<<40 - 1
	f, d, _ := Open(x, 0)
	if f.Mkdir("/a", 0) != api.OK || d.Tree().Last != 1<<40 || f.Rmdir("/a") != api.OK || d.Tree().Last != 1<<40 {
		t.Error(d.Tree())
	}
}

// P5.4: what Mkdir refuses.
func TestMkdirErrors(t *testing.T) {
	for p, want := range map[string]api.Errno{
		"/x": 0, "/x/": 0, "/d/x": 0, "/l/x": 0, "/n/": 0, "/e/../x": 0,
		"/": 21, "/.": 21, "/..": 21, "/d": 21, "/d/": 21, "/d/.": 21, "/f": 21, "/l": 21, "/l/": 21, "/n": 21, "/s": 21, "/d/u/": 21,
		"/f/": 22, "/f/x": 22, "/x/y": 20, "/n/x": 20, "/s/": 25, "/s/x": 25, "": 20, "x": 28, "/x\x00": 28, "/" + signs(65): 26, "/" + signs(64): 0,
	} {
		f, _, _ := Open(usual(), 0)
		if e := f.Mkdir(p, 0o777); e != want {
			t.Errorf("Mkdir(%.20q) = %d", p, e)
		}
		for _, mode := range []int{-1, 0o1000, math.MinInt, math.MaxInt} {
			if e := f.Mkdir(p, mode); e != api.ErrArg {
				t.Errorf("Mkdir(%.20q, %d) = %d", p, mode, e)
			}
		}
	}
	// Of a link to nothing that has a / behind it, where it leads to is made.
	f, _, _ := Open(usual(), 0)
	if f.Mkdir("/n/", 0o700) != api.OK || info(t, f, "/n").Kind != api.Sym || info(t, f, "/none").Kind != api.Dir || f.Mkdir("/n/", 0) != api.Exists {
		t.Error("not made")
	}
}

// P5.4: what Symlink refuses, the first error first.
func TestSymlinkErrors(t *testing.T) {
	for _, c := range []struct {
		target, p string
		want      api.Errno
	}{
		{"a", "/x", 0}, {signs(256), "/x", 0}, {"\x01", "/x", 0}, {"/x", "/x", 0}, {"a", "/l/x", 0}, {"a", "/e/" + signs(64), 0},
		{"", "/x", 28}, {"\x00", "/x", 28}, {"a\x00", "/x", 28}, {"\x00a", "/x", 28}, {signs(256) + "\x00", "/x", 28}, {signs(257), "/x", 26}, {signs(5000), "/x", 26},
		{"a", "/x/", 20}, {"", "/x/", 20}, {signs(257), "/x/", 20}, {"a", "/n/", 20}, {"a", "/x/y", 20}, {"a", "", 20},
		{"a", "/d", 21}, {"", "/d", 21}, {"a", "/d/", 21}, {"a", "/", 21}, {"a", "/d/..", 21}, {"a", "/n", 21}, {"a", "/s", 21}, {signs(257), "/f", 21},
		{"a", "/f/", 22}, {"", "/f/x", 22}, {"a", "/s/", 25}, {"a", "/s/x", 25}, {"a", "x", 28}, {"a", "/" + signs(65), 26}, {"", "/" + signs(65), 26},
	} {
		f, d, _ := Open(usual(), 0)
		if e := f.Symlink(c.target, c.p); e != c.want || e != api.OK && (!equal(d.Tree(), usual()) || f.Clock() != 0) {
			t.Errorf("Symlink(%.20q, %.20q) = %d", c.target, c.p, e)
		}
		// Without room for it what is wrong otherwise is told first.
		x := usual()
		x.Room = api.Room{Nodes: 1}
		want := c.want
		if want == api.OK {
			want = api.NoSpace
		}
		f, d, _ = Open(x, 0)
		if e := f.Symlink(c.target, c.p); e != want || !equal(d.Tree(), x) || f.Clock() != 0 {
			t.Errorf("Symlink(%.20q, %.20q) = %d, without room", c.target, c.p, e)
		}
	}
}

// P5.4: what Link refuses, the first error first; links are given other names, too.
func TestLinkErrors(t *testing.T) {
	for _, c := range []struct {
		from, to string
		want     api.Errno
	}{
		{"/f", "/x", 0}, {"/l", "/x", 0}, {"/n", "/x", 0}, {"/s", "/d/d/x", 0}, {"/d/l", "/l/x", 0}, {"/l/l", "/x", 0},
		{"/none", "/x", 20}, {"/n/", "/x", 20}, {"/none", "/s/x", 20}, {"", "/x", 20}, {"/f/", "/x", 22}, {"/f/x", "/x", 22}, {"/s/", "/x", 25}, {"f", "/x", 28}, {"/" + signs(65), "/x", 26},
		{"/d", "/x", 28}, {"/", "/x", 28}, {"/l/", "/x", 28}, {"/d/..", "/x", 28}, {"/d", "", 28}, {"/d", "/f", 28}, {"/d", "/s/x", 28},
		{"/f", "/x/y", 20}, {"/f", "", 20}, {"/f", "/f/", 22}, {"/f", "/f/x", 22}, {"/f", "/s/x", 25}, {"/f", "x", 28}, {"/f", "/" + signs(65), 26},
		{"/f", "/f", 21}, {"/f", "/d/f", 21}, {"/f", "/d", 21}, {"/f", "/", 21}, {"/f", "/e/", 21}, {"/f", "/n", 21}, {"/f", "/s", 21}, {"/f", "/l/", 21},
		{"/f", "/x/", 20}, {"/f", "/n/", 20}, {"/l", "/e/x/", 20},
	} {
		f, d, _ := Open(usual(), 0)
		if e := f.Link(c.from, c.to); e != c.want || e != api.OK && (!equal(d.Tree(), usual()) || f.Clock() != 0) {
			t.Errorf("Link(%.20q, %.20q) = %d", c.from, c.to, e)
		}
		if c.want != api.OK {
			continue
		}
		a, b := info(t, f, c.from), info(t, f, c.to)
		if a != b || a.Links < 2 || f.Clock() != 1 {
			t.Error(c.from, c.to, a, b)
		}
	}
}
