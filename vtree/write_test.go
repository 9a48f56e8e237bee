package vtree

import (
	"math"
	"testing"

	"rehearsal/api"
	"rehearsal/tree"
)

// empty is a tree with a root alone, and room.
func empty(nodes, bytes int) api.Tree { return tree.New(api.Room{Nodes: nodes, Bytes: bytes}) }

// info tells what a path, not followed, leads to.
func info(t *testing.T, f *Files, p string) api.Info {
	t.Helper()
	i, e := f.Stat(p, false)
	if e != api.OK {
		t.Error(p, e)
	}
	return i
}

// P5.3: files are made, written anew, and written on; the times of files and directories.
func TestWrite(t *testing.T) {
	f, d, _ := Open(empty(9, 99), 10)
	write := func(p, data string, how int, want api.Errno) {
		t.Helper()
		if e := f.Write(p, data, how); e != want {
			t.Errorf("Write(%s): %d", p, e)
		}
	}
	write("/a", "one", api.Truncate, api.OK)
	if i := info(t, f, "/a"); i != (api.Info{Kind: 2, Mode: 0o644, Time: 11, Size: 3, Links: 1}) || info(t, f, "/").Time != 11 || f.Clock() != 11 {
		t.Error(i, f.Clock())
	}
	write("/a", "two", api.Append, api.OK)
	if i := info(t, f, "/a"); i != (api.Info{Kind: 2, Mode: 0o644, Time: 12, Size: 6, Links: 1}) || info(t, f, "/").Time != 11 || f.Clock() != 12 {
		t.Error(i, f.Clock())
	}
	write("/a", "", api.Append, api.OK)
	write("/b", "", api.Append, api.OK)
	write("/c", "c\x00\xff", api.Exclusive, api.OK)
	write("/a", "x", api.Exclusive, api.Exists)
	if s, e := f.Read("/a"); s != "onetwo" || e != api.OK || info(t, f, "/a").Time != 13 || info(t, f, "/").Time != 15 || f.Clock() != 15 {
		t.Error(s, e, f.Clock())
	}
	// The mode, the owner and the names of a file stay.
	f.Chmod("/a", 0o111)
	f.Link("/a", "/h")
	write("/h", "", api.Truncate, api.OK)
	if i := info(t, f, "/a"); i != (api.Info{Kind: 2, Mode: 0o111, Time: 18, Links: 2}) || info(t, f, "/").Time != 17 {
		t.Error(i)
	}
	want := of(
		api.Node{ID: 1, Kind: 1, Mode: 0o755, Time: 17, Entries: []api.Entry{to("a", 2), to("b", 3), to("c", 4), to("h", 2)}},
		api.Node{ID: 2, Kind: 2, Mode: 0o111, Time: 18},
		api.Node{ID: 3, Kind: 2, Mode: 0o644, Time: 14},
		api.Node{ID: 4, Kind: 2, Mode: 0o644, Time: 15, Data: "c\x00\xff"},
	)
	want.Room = api.Room{Nodes: 9, Bytes: 99}
	if !equal(d.Tree(), want) {
		t.Error(d.Tree())
	}
}

// P5.3: where Write goes, and what it refuses; the first error first.
func TestWriteErrors(t *testing.T) {
	for _, c := range []struct {
		p    string
		hows map[int]api.Errno
	}{
		{"/", map[int]api.Errno{1: api.IsDir, 2: api.IsDir, 3: api.Exists}},
		{"/d", map[int]api.Errno{1: api.IsDir, 2: api.IsDir, 3: api.Exists}},
		{"/d/", map[int]api.Errno{1: api.IsDir, 2: api.IsDir, 3: api.Exists}},
		{"/d/..", map[int]api.Errno{1: api.IsDir, 2: api.IsDir, 3: api.Exists}},
		{"/l", map[int]api.Errno{1: api.IsDir, 2: api.IsDir, 3: api.Exists}},
		{"/f", map[int]api.Errno{1: api.OK, 2: api.OK, 3: api.Exists}},
		{"/f/", map[int]api.Errno{1: api.NotDir, 2: api.NotDir, 3: api.NotDir}},
		{"/l/l", map[int]api.Errno{1: api.OK, 2: api.OK, 3: api.Exists}},
		{"/x", map[int]api.Errno{1: api.OK, 2: api.OK, 3: api.OK}},
		{"/x/", map[int]api.Errno{1: api.IsDir, 2: api.IsDir, 3: api.IsDir}},
		{"/l/x", map[int]api.Errno{1: api.OK, 2: api.OK, 3: api.OK}},
		{"/x/y", map[int]api.Errno{1: api.NoEntry, 2: api.NoEntry, 3: api.NoEntry}},
		{"/f/y", map[int]api.Errno{1: api.NotDir, 2: api.NotDir, 3: api.NotDir}},
		{"/s", map[int]api.Errno{1: api.Loop, 2: api.Loop, 3: api.Exists}},
		{"/n", map[int]api.Errno{1: api.OK, 2: api.OK, 3: api.Exists}},
		{"/n/", map[int]api.Errno{1: api.IsDir, 2: api.IsDir, 3: api.IsDir}},
		{"", map[int]api.Errno{1: api.NoEntry, 2: api.NoEntry, 3: api.NoEntry}},
		{"f", map[int]api.Errno{1: api.Invalid, 2: api.Invalid, 3: api.Invalid}},
	} {
		for how, want := range c.hows {
			p := open(t, usual(), 0)
			p.try(t, act{"Write", c.p, "data", how})
			if e := open(t, usual(), 0).f.Write(c.p, "data", how); e != want {
				t.Errorf("Write(%q, %d) = %d", c.p, how, e)
			}
		}
		for _, how := range []int{0, 4, -1, math.MinInt, math.MaxInt} {
			if e := open(t, usual(), 0).f.Write(c.p, signs(5000), how); e != api.ErrArg {
				t.Errorf("Write(%q, %d) = %d", c.p, how, e)
			}
		}
	}
	// A link to nothing leads to where the file is made, from wherever the link is.
	f, _, _ := Open(usual(), 0)
	if f.Symlink("../e/new", "/d/k") != api.OK || f.Write("/l/k", "k", api.Append) != api.OK {
		t.Error("not made")
	}
	if s, e := f.Read("/e/new"); s != "k" || e != api.OK || info(t, f, "/d/k").Kind != api.Sym || info(t, f, "/e").Time != 2 || info(t, f, "/d").Time != 1 {
		t.Error(s, e)
	}
}

// P5.3: 4096 bytes fill a file, whatever room there is.
func TestWriteFull(t *testing.T) {
	play(t, open(t, empty(20, math.MaxInt), 0), []step{
		{act{"Write", "/a", signs(4096), 1}, "", api.OK},
		{act{"Write", "/b", signs(4097), 1}, "", api.NoSpace},
		{act{"Write", "/b", signs(4097), 2}, "", api.NoSpace},
		{act{"Write", "/b", signs(4097), 3}, "", api.NoSpace},
		{act{"Read", "/b", "", 0}, "", api.NoEntry},
		{act{"Write", "/a", "x", 2}, "", api.NoSpace},
		{act{"Write", "/a", "", 2}, "", api.OK},
		{act{"Write", "/a", signs(4097), 1}, "", api.NoSpace},
		{act{"Write", "/a", signs(4095), 1}, "", api.OK},
		{act{"Write", "/a", "xx", 2}, "", api.NoSpace},
		{act{"Write", "/a", "x", 2}, "", api.OK},
		{act{"Write", "/a", "x", 3}, "", api.Exists},
		{act{"Write", "/", signs(4097), 1}, "", api.IsDir},
		{act{"Write", "/b/", signs(4097), 1}, "", api.IsDir},
	})
}

// P5.3, P5.4: the room's bytes may be filled, and no byte more; as many as before, or fewer, need none.
func TestRoomBytes(t *testing.T) {
	play(t, open(t, empty(20, 10), 0), []step{
		{act{"Write", "/a", signs(11), 1}, "", api.NoSpace},
		{act{"Write", "/a", signs(10), 1}, "", api.OK},
		{act{"Write", "/b", "x", 1}, "", api.NoSpace},
		{act{"Write", "/b", "x", 3}, "", api.NoSpace},
		{act{"Write", "/b", "", 1}, "", api.OK},
		{act{"Write", "/b", "x", 2}, "", api.NoSpace},
		{act{"Mkdir", "/d", "", 0}, "", api.OK},
		{act{"Symlink", "x", "/l", 0}, "", api.NoSpace},
		{act{"Write", "/a", "1234567890", 1}, "", api.OK},
		{act{"Write", "/a", "x", 2}, "", api.NoSpace},
		{act{"Write", "/a", "123456789", 1}, "", api.OK},
		{act{"Symlink", "xx", "/l", 0}, "", api.NoSpace},
		{act{"Symlink", "x", "/l", 0}, "", api.OK},
		{act{"Unlink", "/l", "", 0}, "", api.OK},
		{act{"Write", "/b", "xx", 2}, "", api.NoSpace},
		{act{"Write", "/b", "x", 2}, "", api.OK},
		{act{"Link", "/a", "/h", 0}, "", api.OK},
		{act{"Write", "/h", "1234567890", 1}, "", api.NoSpace},
		{act{"Write", "/h", "12345678", 1}, "", api.OK},
		{act{"Write", "/h", "9", 2}, "", api.OK},
	})
	// A room that there is more in than it has, or the least and the greatest one.
	for _, bytes := range []int{4, 0, -1, math.MinInt} {
		x := of(dir(1, to("a", 2), to("b", 3)), file(2, "12345"), file(3, ""))
		x.Room = api.Room{Nodes: 9, Bytes: bytes}
		play(t, open(t, x, 0), []step{
			{act{"Write", "/a", "123456", 1}, "", api.NoSpace},
			{act{"Write", "/a", "6", 2}, "", api.NoSpace},
			{act{"Write", "/b", "6", 2}, "", api.NoSpace},
			{act{"Write", "/c", "6", 2}, "", api.NoSpace},
			{act{"Symlink", "6", "/c", 0}, "", api.NoSpace},
			{act{"Write", "/a", "54321", 1}, "", api.OK},
			{act{"Write", "/a", "", 2}, "", api.OK},
			{act{"Write", "/b", "", 1}, "", api.OK},
			{act{"Write", "/c", "", 1}, "", api.OK},
			{act{"Mkdir", "/d", "", 0}, "", api.OK},
			{act{"Write", "/a", "4321", 1}, "", api.OK},
			{act{"Write", "/a", "54321", 1}, "", api.NoSpace},
		})
	}
}

// P5.3, P5.4: the room's nodes may be filled, and no node more; what makes none needs no room.
func TestRoomNodes(t *testing.T) {
	makes := []act{{"Mkdir", "/x", "", 0}, {"Write", "/x", "", 1}, {"Write", "/x", "", 3}, {"Symlink", "x", "/x", 0}}
	for _, nodes := range []int{math.MinInt, -1, 0, 1, 2, 3} {
		for _, x := range makes {
			play(t, open(t, empty(nodes, 9), 0), []step{{x, "", map[bool]api.Errno{true: api.OK, false: api.NoSpace}[nodes >= 2]}})
		}
		x := of(dir(1, to("a", 2), to("b", 3)), file(2, ""), dir(3))
		x.Room = api.Room{Nodes: nodes, Bytes: 9}
		for _, y := range makes {
			play(t, open(t, x, 0), []step{{y, "", api.NoSpace}})
		}
		play(t, open(t, x, 0), []step{
			{act{"Link", "/a", "/h", 0}, "", api.OK},
			{act{"Write", "/h", "123456789", 2}, "", api.OK},
			{act{"Rename", "/h", "/b/h", 0}, "", api.OK},
			{act{"Chmod", "/b", "", 0}, "", api.OK},
			{act{"Touch", "/b/h", "", 0}, "", api.OK},
			{act{"Unlink", "/b/h", "", 0}, "", api.OK},
			{act{"Rmdir", "/b", "", 0}, "", api.OK},
			{act{"Mkdir", "/b", "", 0}, "", map[bool]api.Errno{true: api.OK, false: api.NoSpace}[nodes >= 3]},
		})
	}
}

// P5.3, P5.4: 512 nodes are the most there may be, whatever the room is.
func TestMostNodes(t *testing.T) {
	for _, nodes := range []int{511, 512, 513, math.MaxInt} {
		f, d, _ := Open(empty(nodes, 9), 0)
		made := 1
		for a := 'a'; a <= 'z'; a++ {
			for b := 'a'; b <= 'z'; b++ {
				if f.Mkdir("/"+string(a)+string(b), 0) == api.OK {
					made++
				}
			}
		}
		if made != min(nodes, 512) || f.Write("/x", "", 1) != api.NoSpace || f.Symlink("x", "/x") != api.NoSpace {
			t.Error(nodes, made)
		}
		if x := d.Tree(); len(x.Nodes) != made || x.Last != made || tree.Check(x) != api.OK {
			t.Error(nodes, len(x.Nodes), x.Last)
		}
		// One less, and one may be made, of another number.
		if f.Rmdir("/aa") != api.OK || f.Write("/x", "", 1) != api.OK || f.Write("/y", "", 1) != api.NoSpace || d.Tree().Last != made+1 {
			t.Error(nodes, d.Tree().Last)
		}
	}
}

// P5.7: modes, and times.
func TestChmodTouch(t *testing.T) {
	f, d, _ := Open(usual(), 40)
	was := info(t, f, "/f")
	for i, mode := range []int{0, 0o777, 0o644} {
		if e := f.Chmod("/l/l", mode); e != api.OK || f.Clock() != 41+i {
			t.Error(e, f.Clock())
		}
		was.Mode = mode
		if got := info(t, f, "/f"); got != was {
			t.Error(got)
		}
	}
	for _, mode := range []int{-1, 0o1000, math.MinInt, math.MaxInt} {
		for _, p := range []string{"/f", "/", "/none", "", "x", "/s"} {
			if e := f.Chmod(p, mode); e != api.ErrArg {
				t.Error(p, mode, e)
			}
		}
	}
	if e := f.Touch("/d/l"); e != api.OK || f.Clock() != 44 {
		t.Error(e, f.Clock())
	}
	was.Time = 44
	if got := info(t, f, "/f"); got != was {
		t.Error(got)
	}
	if f.Chmod("/", 0o700) != api.OK || f.Touch("/l/.") != api.OK || info(t, f, "/").Mode != 0o700 || info(t, f, "/").Time != 0 || info(t, f, "/d").Time != 46 {
		t.Error(d.Tree())
	}
	left := d.Tree()
	for p, want := range map[string]api.Errno{"/none": 20, "/n": 20, "/n/": 20, "/s": 25, "/f/": 22, "/f/x": 22, "": 20, "f": 28, "/" + signs(65): 26} {
		if e, g := f.Chmod(p, 0o700), f.Touch(p); e != want || g != want {
			t.Error(p, e, g)
		}
	}
	if !equal(d.Tree(), left) || f.Clock() != 46 {
		t.Error("an error changes something")
	}
}
