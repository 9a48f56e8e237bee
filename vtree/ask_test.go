package vtree

import (
	"slices"
	"testing"

	"rehearsal/api"
	"rehearsal/tree"
)

// P5.2: what Stat tells of nodes of each kind.
func TestStat(t *testing.T) {
	x := usual()
	x.Nodes[2].Mode, x.Nodes[2].Owner, x.Nodes[2].Time = 0, 4, 5
	f, _, _ := Open(x, 0)
	for _, c := range []struct {
		p      string
		follow bool
		want   api.Info
	}{
		{"/", false, api.Info{Kind: 1, Mode: 0o755}},
		{"/d", true, api.Info{Kind: 1, Mode: 0o755, Links: 1}},
		{"/d/d", false, api.Info{Kind: 1, Owner: 4, Time: 5, Links: 1}},
		{"/f", false, api.Info{Kind: 2, Mode: 0o600, Owner: 65535, Time: 1 << 40, Size: 3, Links: 2}},
		{"/d/f", true, api.Info{Kind: 2, Mode: 0o600, Owner: 65535, Time: 1 << 40, Size: 3, Links: 2}},
		{"/d/l", true, api.Info{Kind: 2, Mode: 0o600, Owner: 65535, Time: 1 << 40, Size: 3, Links: 2}},
		{"/d/l", false, api.Info{Kind: 3, Mode: 0o777, Size: 4, Links: 1}},
		{"/e", false, api.Info{Kind: 1, Mode: 0o755, Time: 7, Links: 1}},
		{"/n", false, api.Info{Kind: 3, Mode: 0o777, Size: 4, Links: 1}},
	} {
		if got, e := f.Stat(c.p, c.follow); got != c.want || e != api.OK {
			t.Error(c.p, c.follow, got, e)
		}
	}
	for _, c := range []struct {
		p      string
		follow bool
		e      api.Errno
	}{
		{"/n", true, api.NoEntry}, {"/none", false, api.NoEntry}, {"/none", true, api.NoEntry}, {"/s", true, api.Loop}, {"/f/", false, api.NotDir}, {"", true, api.NoEntry}, {"f", true, api.Invalid},
	} {
		if got, e := f.Stat(c.p, c.follow); got != (api.Info{}) || e != c.e {
			t.Error(c.p, got, e)
		}
	}
}

// P5.2: what Read, Target and List tell, and of what they do not.
func TestAsk(t *testing.T) {
	p := open(t, usual(), 8)
	play(t, p, []step{
		{act{"Read", "/f", "", 0}, "hi\x00", 0},
		{act{"Read", "/l/l", "", 0}, "hi\x00", 0},
		{act{"Read", "/d/d/g", "", 0}, "five", 0},
		{act{"Read", "/", "", 0}, "", api.IsDir},
		{act{"Read", "/d/", "", 0}, "", api.IsDir},
		{act{"Read", "/l", "", 0}, "", api.IsDir},
		{act{"Read", "/d/..", "", 0}, "", api.IsDir},
		{act{"Read", "/n", "", 0}, "", api.NoEntry},
		{act{"Read", "/s", "", 0}, "", api.Loop},
		{act{"Read", "/f/", "", 0}, "", api.NotDir},
		{act{"Target", "/l", "", 0}, "d", 0},
		{act{"Target", "/d/l", "", 0}, "../f", 0},
		{act{"Target", "/l/l", "", 0}, "../f", 0},
		{act{"Target", "/n", "", 0}, "none", 0},
		{act{"Target", "/s", "", 0}, "s", 0},
		{act{"Target", "/r", "", 0}, "/", 0},
		{act{"Target", "/l/", "", 0}, "", api.Invalid},
		{act{"Target", "/", "", 0}, "", api.Invalid},
		{act{"Target", "/f", "", 0}, "", api.Invalid},
		{act{"Target", "/d/.", "", 0}, "", api.Invalid},
		{act{"Target", "/n/", "", 0}, "", api.NoEntry},
		{act{"Target", "/s/", "", 0}, "", api.Loop},
		{act{"Target", "/none", "", 0}, "", api.NoEntry},
		{act{"List", "/", "", 0}, "d / e / f / l / n / r / s", 0},
		{act{"List", "/l", "", 0}, "d / f / l / u", 0},
		{act{"List", "/d/u", "", 0}, "g", 0},
		{act{"List", "/e/", "", 0}, "", 0},
		{act{"List", "/f", "", 0}, "", api.NotDir},
		{act{"List", "/l/l", "", 0}, "", api.NotDir},
		{act{"List", "/f/", "", 0}, "", api.NotDir},
		{act{"List", "/n", "", 0}, "", api.NoEntry},
		{act{"List", "/s", "", 0}, "", api.Loop},
		{act{"List", "/none/", "", 0}, "", api.NoEntry},
	})
	if !equal(p.d.Tree(), usual()) || p.f.Clock() != 8 {
		t.Error("what is asked changes something")
	}
}

// P5.2: names rise by their bytes, and what was told is new.
func TestListRises(t *testing.T) {
	f, _, _ := Open(tree.New(api.Room{Nodes: 99}), 0)
	names := []string{"b", "a", "ab", "a b", "A", "\xff", "é", "...", ".a", "~", "a!", "\x01", "1", "10", "9"}
	for _, name := range names {
		if e := f.Mkdir("/"+name, 0); e != api.OK {
			t.Error(name, e)
		}
	}
	slices.Sort(names)
	got, e := f.List("/")
	if !slices.Equal(got, names) || e != api.OK {
		t.Errorf("%q, %d", got, e)
	}
	for i := range got[:cap(got)] {
		got[:cap(got)][i] = "spoilt"
	}
	if got, _ := f.List("/"); !slices.Equal(got, names) {
		t.Errorf("%q", got)
	}
}
