package vtree

import (
	"fmt"
	"strings"
	"testing"

	"rehearsal/api"
)

// kindOf tells the kind of what is at a path in a tree.
func kindOf(t *testing.T, x api.Tree, p string, follow bool) (int, api.Errno) {
	t.Helper()
	f, _, e := Open(x, 0)
	if e != api.OK {
		t.Fatal(e)
	}
	i, e := f.Stat(p, follow)
	return i.Kind, e
}

// P5.2: where paths lead, followed and not: names, dots, slashes at the end, and what is wrong with them.
func TestPaths(t *testing.T) {
	for _, c := range []struct {
		p        string
		kind     int
		e        api.Errno
		followed int
		f        api.Errno
	}{
		{"/", 1, 0, 1, 0}, {"//", 1, 0, 1, 0}, {"/.", 1, 0, 1, 0}, {"/..", 1, 0, 1, 0}, {"/../..", 1, 0, 1, 0}, {"/./", 1, 0, 1, 0},
		{"/d", 1, 0, 1, 0}, {"/d/", 1, 0, 1, 0}, {"//d//", 1, 0, 1, 0}, {"/d/d/g", 2, 0, 2, 0}, {"/d/d/../f", 2, 0, 2, 0}, {"/../d/./d/g", 2, 0, 2, 0},
		{"/d/../../f", 2, 0, 2, 0}, {"/d/d/../../f", 2, 0, 2, 0},
		{"/f", 2, 0, 2, 0}, {"/f/", 0, 22, 0, 22}, {"/f/.", 0, 22, 0, 22}, {"/f/..", 0, 22, 0, 22}, {"/f/x", 0, 22, 0, 22},
		{"/x", 0, 20, 0, 20}, {"/x/", 0, 20, 0, 20}, {"/x/.", 0, 20, 0, 20}, {"/x/..", 0, 20, 0, 20}, {"/x/y", 0, 20, 0, 20}, {"/d/x/y", 0, 20, 0, 20},
		// Links: to a directory, to a file one up, to a directory with a / at its end, to nothing, to the root, to itself.
		{"/l", 3, 0, 1, 0}, {"/l/", 1, 0, 1, 0}, {"/l/.", 1, 0, 1, 0}, {"/l/f", 2, 0, 2, 0}, {"/l/..", 1, 0, 1, 0}, {"/l/../f", 2, 0, 2, 0},
		{"/d/l", 3, 0, 2, 0}, {"/d/l/", 0, 22, 0, 22}, {"/d/l/x", 0, 22, 0, 22}, {"/l/l", 3, 0, 2, 0},
		{"/d/u", 3, 0, 1, 0}, {"/d/u/", 1, 0, 1, 0}, {"/d/u/g", 2, 0, 2, 0}, {"/d/u/../f", 2, 0, 2, 0},
		{"/n", 3, 0, 0, 20}, {"/n/", 0, 20, 0, 20}, {"/n/x", 0, 20, 0, 20}, {"/n/..", 0, 20, 0, 20},
		{"/r", 3, 0, 1, 0}, {"/r/", 1, 0, 1, 0}, {"/r/r/r/f", 2, 0, 2, 0}, {"/r/..", 1, 0, 1, 0},
		{"/s", 3, 0, 0, 25}, {"/s/", 0, 25, 0, 25}, {"/s/x", 0, 25, 0, 25}, {"/d/../s", 3, 0, 0, 25},
		// The path itself.
		{"", 0, 20, 0, 20}, {"d", 0, 28, 0, 28}, {"d/", 0, 28, 0, 28}, {".", 0, 28, 0, 28}, {"/d\x00", 0, 28, 0, 28}, {"\x00/d", 0, 28, 0, 28},
		{"/" + signs(64), 0, 20, 0, 20}, {"/" + signs(65), 0, 26, 0, 26}, {"/f/" + signs(65), 0, 26, 0, 26}, {"/s/" + signs(65), 0, 26, 0, 26},
		{strings.Repeat("/", 256), 1, 0, 1, 0}, {strings.Repeat("/", 257), 0, 26, 0, 26}, {strings.Repeat("/.", 127) + "/f", 2, 0, 2, 0}, {strings.Repeat("/.", 128) + "/f", 0, 26, 0, 26},
	} {
		if kind, e := kindOf(t, usual(), c.p, false); kind != c.kind || e != c.e {
			t.Errorf("%.50q, not followed: %d, %d", c.p, kind, e)
		}
		if kind, e := kindOf(t, usual(), c.p, true); kind != c.followed || e != c.f {
			t.Errorf("%.50q, followed: %d, %d", c.p, kind, e)
		}
	}
}

// linked is a tree with a link under the name l in the directory d (the node 2), and much that it may lead to.
func linked(target string) api.Tree {
	return of(
		dir(1, to("d", 2), to("f", 3), to("m", 6), to("q", 9), to("t", 7), to(signs(64), 3)),
		dir(2, to("e", 4), to("l", 5), to(signs(64), 3)),
		file(3, "f"),
		dir(4, to("k", 10)),
		sym(5, target),
		sym(6, "f"),
		sym(7, "d/e"),
		sym(9, "t/"),
		sym(10, "/m"),
	)
}

// P5.2: where links lead: from the root, or from the directory that they are in, with a / at the end or without.
func TestLinkTargets(t *testing.T) {
	for _, c := range []struct {
		target   string
		followed int
		e        api.Errno
		slash    int
		s        api.Errno
	}{
		{"/", 1, 0, 1, 0}, {"///", 1, 0, 1, 0}, {".", 1, 0, 1, 0}, {"..", 1, 0, 1, 0}, {"./", 1, 0, 1, 0}, {"../../..", 1, 0, 1, 0},
		{"e", 1, 0, 1, 0}, {"e/", 1, 0, 1, 0}, {"e//", 1, 0, 1, 0}, {"/d/e", 1, 0, 1, 0}, {"/d/e/", 1, 0, 1, 0}, {"//d//e", 1, 0, 1, 0}, {"../d/e", 1, 0, 1, 0}, {"./e/.", 1, 0, 1, 0},
		{"/f", 2, 0, 0, 22}, {"/f/", 0, 22, 0, 22}, {"../f", 2, 0, 0, 22}, {"../f/", 0, 22, 0, 22}, {"f", 0, 20, 0, 20}, {"/e", 0, 20, 0, 20},
		{"/m", 2, 0, 0, 22}, {"/m/", 0, 22, 0, 22}, {"e/k", 2, 0, 0, 22}, {"e/k/", 0, 22, 0, 22}, {"e/k/x", 0, 22, 0, 22},
		{"/t", 1, 0, 1, 0}, {"/t/", 1, 0, 1, 0}, {"/t/k", 2, 0, 0, 22}, {"/t/../e/k", 2, 0, 0, 22}, {"/q", 1, 0, 1, 0}, {"/q/k", 2, 0, 0, 22}, {"/q/k/", 0, 22, 0, 22},
		{"none", 0, 20, 0, 20}, {"none/", 0, 20, 0, 20}, {"none/x", 0, 20, 0, 20}, {"none/..", 0, 20, 0, 20}, {"/f/..", 0, 22, 0, 22},
		{"l", 0, 25, 0, 25}, {"../d/l", 0, 25, 0, 25}, {"./l/", 0, 25, 0, 25}, {"l/x", 0, 25, 0, 25},
		{signs(64), 2, 0, 0, 22}, {"/" + signs(64), 2, 0, 0, 22}, {signs(64) + "/", 0, 22, 0, 22}, {"e/" + signs(64), 0, 20, 0, 20},
		{signs(65), 0, 26, 0, 26}, {"/" + signs(65), 0, 26, 0, 26}, {signs(65) + "/", 0, 26, 0, 26}, {"/" + signs(65) + "/", 0, 26, 0, 26}, {"e/" + signs(65), 0, 26, 0, 26}, {signs(65) + "/e", 0, 26, 0, 26},
		{"e/" + signs(65) + "/..", 0, 26, 0, 26}, {signs(256), 0, 26, 0, 26},
		// A long name behind one that leads to nothing, or to a file, is told ahead of these.
		{"none/" + signs(65), 0, 26, 0, 26}, {"/f/" + signs(65), 0, 26, 0, 26}, {"l/" + signs(65), 0, 26, 0, 26},
		// 256 bytes of names that are not long.
		{strings.Repeat("./", 127) + "/e", 1, 0, 1, 0}, {strings.Repeat("/", 255) + "f", 2, 0, 0, 22}, {strings.Repeat("/"+signs(63), 4), 0, 20, 0, 20},
	} {
		x := linked(c.target)
		if kind, e := kindOf(t, x, "/d/l", false); kind != api.Sym || e != api.OK {
			t.Errorf("%.50q, not followed: %d, %d", c.target, kind, e)
		}
		if kind, e := kindOf(t, x, "/d/l", true); kind != c.followed || e != c.e {
			t.Errorf("%.50q, followed: %d, %d", c.target, kind, e)
		}
		for _, follow := range []bool{false, true} {
			if kind, e := kindOf(t, x, "/d/l/", follow); kind != c.slash || e != c.s {
				t.Errorf("%.50q, with a slash: %d, %d", c.target, kind, e)
			}
		}
	}
}

// P5.2: a / at the end of a link's target is the path's only where no names are left.
func TestLinkSlash(t *testing.T) {
	x := of(dir(1, to("a", 2), to("b", 3), to("d", 4)), sym(2, "d/"), sym(3, "a/l"), dir(4, to("f", 5), to("l", 6)), file(5, ""), sym(6, "f"))
	for p, want := range map[string]api.Errno{"/a/f": api.OK, "/a": api.OK, "/b": api.OK, "/a/l": api.OK, "/a/f/": api.NotDir, "/b/": api.NotDir, "/a/l/": api.NotDir} {
		if _, e := kindOf(t, x, p, true); e != want {
			t.Error(p, e)
		}
	}
	// Not followed, a path that has a / at its end goes through a link, and what this leads to has the / still.
	x.Nodes[5].Data = "../a"
	for _, follow := range []bool{false, true} {
		if kind, e := kindOf(t, x, "/b/", follow); kind != api.Dir || e != api.OK {
			t.Error(kind, e)
		}
	}
}

// chain is a tree in which n links lead to one another, the last one to a directory with a file g.
func chain(n int) api.Tree {
	l := []api.Node{dir(1, to("d", 2)), dir(2, to("g", 3)), file(3, "")}
	l[0].Entries = append(l[0].Entries, to("l0", 4))
	for i := range n {
		target := fmt.Sprint("l", i+1)
		if i == n-1 {
			target = "/d"
		}
		l = append(l, sym(i+4, target))
		if i > 0 {
			l[0].Entries = append(l[0].Entries, to(fmt.Sprint("l", i), i+4))
		}
	}
	return of(l...)
}

// P5.2: a path goes through eight links, wherever they are, and not through nine.
func TestHops(t *testing.T) {
	for n := 1; n <= 10; n++ {
		follow, want := n <= 8, api.Loop
		if follow {
			want = api.OK
		}
		for p, kind := range map[string]int{"/l0": api.Dir, "/l0/": api.Dir, "/l0/g": api.File, "/l0/.": api.Dir} {
			if want != api.OK {
				kind = 0
			}
			if got, e := kindOf(t, chain(n), p, true); got != kind || e != want {
				t.Error(n, p, got, e)
			}
		}
		// One that is not followed is not gone through.
		if got, e := kindOf(t, chain(n), "/l0", false); got != api.Sym || e != api.OK {
			t.Error(n, got, e)
		}
	}
	for _, c := range []struct {
		p    string
		kind int
		e    api.Errno
	}{
		{strings.Repeat("/r", 8), api.Dir, api.OK},
		{strings.Repeat("/r", 9), 0, api.Loop},
		{strings.Repeat("/r", 8) + "/f", api.File, api.OK},
		{strings.Repeat("/r", 9) + "/f", 0, api.Loop},
		{strings.Repeat("/r", 9) + "/none", 0, api.Loop},
		{strings.Repeat("/r", 8) + "/none", 0, api.NoEntry},
		{strings.Repeat("/r", 8) + "/f/x", 0, api.NotDir},
	} {
		if kind, e := kindOf(t, usual(), c.p, true); kind != c.kind || e != c.e {
			t.Error(c.p, kind, e)
		}
	}
	if kind, e := kindOf(t, usual(), strings.Repeat("/r", 9), false); kind != api.Sym || e != api.OK {
		t.Error(kind, e)
	}
	// The ninth is told ahead of where it leads.
	x := of(dir(1, to("l", 2), to("r", 3)), sym(2, signs(65)), sym(3, "/"))
	for n, want := range map[int]api.Errno{0: api.LongName, 7: api.LongName, 8: api.Loop} {
		if _, e := kindOf(t, x, strings.Repeat("/r", n)+"/l", true); e != want {
			t.Error(n, e)
		}
	}
}

// P5.2: the longest ways there are come to an end: eight links, each with as many names as one may have.
func TestLongWay(t *testing.T) {
	x := of(dir(1, to("d", 2), to("l", 3)), dir(2, to("f", 4)), sym(3, strings.Repeat("d/../", 51)+"."), file(4, "deep"))
	f, _, _ := Open(x, 0)
	if s, e := f.Read(strings.Repeat("/l", 8) + "/d/f"); s != "deep" || e != api.OK {
		t.Error(s, e)
	}
	if s, e := f.Read(strings.Repeat("/l", 9) + "/d/f"); s != "" || e != api.Loop {
		t.Error(s, e)
	}
}

// P5.5: what a path without a name is, by way of links, too: they end without one where they lead to / , . or .. .
func TestNameless(t *testing.T) {
	for target, want := range map[string]api.Errno{
		"/": api.Invalid, ".": api.Invalid, "..": api.Invalid, "e/..": api.Invalid, "e/.": api.Invalid, "//": api.Invalid, "./": api.Invalid,
		"e": api.NotEmpty, "e/": api.NotEmpty, "/d/./e": api.NotEmpty, "/d/e/../e": api.NotEmpty, "/t": api.NotEmpty, "none": api.NoEntry,
	} {
		f, _, _ := Open(linked(target), 0)
		if e := f.Rmdir("/d/l/"); e != want {
			t.Errorf("%q: %d", target, e)
		}
		if e := f.Rmdir("/d/l"); e != api.NotDir {
			t.Errorf("%q: %d", target, e)
		}
	}
	for _, p := range []string{"/", "//", "/.", "/..", "/d/.", "/d/..", "/d/../", "/d/e/./"} {
		f, _, _ := Open(linked("x"), 0)
		for _, e := range []api.Errno{f.Rmdir(p), f.Unlink(p), f.Rename(p, "/new"), f.Rename("/f", p)} {
			if e != api.Invalid {
				t.Error(p, e)
			}
		}
	}
}
