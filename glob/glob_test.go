package glob

import (
	"slices"
	"strconv"
	"strings"
	"testing"

	"rehearsal/api"
	"rehearsal/over"
	"rehearsal/tree"
	"rehearsal/vtree"
)

// fill makes what some words say, in order: a/ a directory, a>b a symbolic link to b, a=b another name for b, else an empty file.
func fill(t *testing.T, f *vtree.Files, words string) {
	t.Helper()
	for _, w := range strings.Fields(words) {
		var e api.Errno
		if p, target, ok := strings.Cut(w, ">"); ok {
			e = f.Symlink(target, p)
		} else if p, ok := strings.CutSuffix(w, "/"); ok {
			e = f.Mkdir(p, 0o755)
		} else if p, from, ok := strings.Cut(w, "="); ok {
			e = f.Link(from, p)
		} else {
			e = f.Write(w, "", api.Exclusive)
		}
		if e != api.OK {
			t.Fatal(w, e)
		}
	}
}

// made are files on a disk, as fill makes them.
func made(t *testing.T, words string) *vtree.Files {
	t.Helper()
	f, _, e := vtree.Open(tree.New(api.Room{Nodes: api.MaxNodes, Bytes: api.MaxBytes}), 0)
	if e != api.OK {
		t.Fatal(e)
	}
	fill(t, f, words)
	return f
}

// row is a pattern, looked for in a directory, and what it finds, with blanks between.
type row struct{ dir, p, want string }

// finds checks what patterns find.
func finds(t *testing.T, f *vtree.Files, rows ...row) {
	t.Helper()
	for _, r := range rows {
		if got := Expand(f, r.dir, r.p); !slices.Equal(got, strings.Fields(r.want)) {
			t.Errorf("Expand(%q, %q) = %q; want %s", r.dir, r.p, got, r.want)
		}
	}
}

// P12.1: a pattern is special, if a part of it is not plain; it is cut at each / but one that a \ stands ahead of.
func TestSpecial(t *testing.T) {
	for p, want := range map[string]bool{
		"": false, "/": false, "//": false, "a": false, "a/b": false, ".": false, "a-b!": false, "]": false,
		"*": true, "?": true, "[a]": true, "a*": true, "/a/?/b": true, "a/[b]": true, "[!a]/b": true, "*/": true, "//*": true,
		`\*`: false, `a\*`: false, `\?/\[a]`: false, `\\*`: true, `\\\*`: false, `*\`: true, `a\`: false, `\`: false,
		"[": false, "[a": false, "[]": false, "[]]": true, "[!]": false, "[!]]": true, `[a\]`: false, `[a\]]`: true,
		"[/]": false, "[a/b]": false, `[\/]`: true, `[a\/b]`: true, `a\/*`: true, `\/\*`: false, `\\/[/]`: false, `[\\/]`: false,
	} {
		if got := Special(p); got != want {
			t.Errorf("Special(%q) = %v", p, got)
		}
	}
}

// P12.1: a long pattern is special or not, too.
func TestSpecialLong(t *testing.T) {
	plain := strings.Repeat("a/", api.MaxText)
	if Special(plain) || !Special(plain+"*") || !Special("*"+plain) || Special(strings.Repeat("[", 1<<16)) {
		t.Error("special")
	}
}

// P12.2: the example of the chapter.
func TestExample(t *testing.T) {
	finds(t, made(t, "/d/ /d/a.go /d/b.go /d/.c.go /d/x"),
		row{"/d", "*.go", "a.go b.go"}, row{"/d", "/*/a*", "/d/a.go"}, row{"/d", "x", ""})
}

// P12.2: names are found part by part; what is plain stands as it is, there or not.
func TestParts(t *testing.T) {
	f := made(t, "/d/ /d/a /d/b /d/s/ /d/s/a /d/s/c /e/ /e/a /e/[x] /f /a*b")
	finds(t, f,
		row{"/", "*", "a*b d e f"}, row{"/", "?", "d e f"}, row{"/", "[d-e]", "d e"}, row{"/", "[!d-e]", "f"}, row{"/", "z*", ""},
		row{"/", "*/a", "d/a e/a"}, row{"/", "*/*", "d/a d/b d/s e/[x] e/a"}, row{"/", "*/*/*", "d/s/a d/s/c"}, row{"/", "*/*/*/*", ""},
		row{"/", "d/*", "d/a d/b d/s"}, row{"/", "d/[ab]", "d/a d/b"}, row{"/", "d/*/c", "d/s/c"}, row{"/", "none/*", ""}, row{"/", "f/*", ""},
		row{"/", `a\**`, "a*b"}, row{"/", `\a*`, "a*b"}, row{"/", `\d/*`, "d/a d/b d/s"}, row{"/", `*\/a`, ""}, row{"/", `\e/\[*`, "e/[x]"},
		row{"/", "[d/a]*", ""}, row{"/", "*[/]", ""}, row{"/", `d\/*`, ""}, row{"/", `*\`, ""}, row{"/e", "[[]x]", "[x]"},
		row{"/", "[e/*", ""}, row{"/e", "[*", "[x]"},
	)
	// A plain part with a / in it is put as the text that it is.
	finds(t, f, row{"/", `d\/s/*`, "d/s/a d/s/c"}, row{"/", `*/s\/c`, "d/s/c"}, row{"/", `\/d/[b]`, "/d/b"})
	// A \ at the end is itself.
	fill(t, f, `/e\ /\`)
	finds(t, f, row{"/", `*\`, `\ e\`}, row{"/", `?\`, `e\`}, row{"/", `[e]\\`, `e\`})
}

// P12.2: slashes stand where the pattern has them, be they many; one at the end finds what leads to directories alone.
func TestSlashes(t *testing.T) {
	f := made(t, "/d/ /d/s/ /d/a /f /l>d /m>f /n>none")
	finds(t, f,
		row{"/", "/*", "/d /f /l /m /n"}, row{"/d", "/*", "/d /f /l /m /n"}, row{"/", "//?", "//d //f //l //m //n"},
		row{"/", "*/", "d/ l/"}, row{"/", "/*/", "/d/ /l/"}, row{"/", "*//", "d// l//"}, row{"/", "*/*/", "d/s/ l/s/"},
		row{"/", "*//*", "d//a d//s l//a l//s"}, row{"/", "d//*//", "d//s//"},
	)
}

// P12.2: of lists links are followed; what stands last is not.
func TestLinks(t *testing.T) {
	f := made(t, "/d/ /d/a /l>d /k>/l /n>none /o>o /d/up>.. /f /g>f")
	finds(t, f,
		row{"/", "*", "d f g k l n o"}, row{"/", "[no]*", "n o"}, row{"/", "*/a", "d/a k/a l/a"}, row{"/", "[k-o]/*", "k/a k/up l/a l/up"},
		row{"/", "*/up/f", "d/up/f k/up/f l/up/f"}, row{"/", "[dn]/", "d/"}, row{"/", "*/up/*/up/n", "d/up/d/up/n d/up/k/up/n d/up/l/up/n k/up/d/up/n k/up/k/up/n k/up/l/up/n l/up/d/up/n l/up/k/up/n l/up/l/up/n"},
	)
}

// P12.2: a name that begins with . is found only by a part that begins with . itself.
func TestHidden(t *testing.T) {
	f := made(t, "/.a /.b/ /.b/.c /.b/d /..x /x.y /e/ /e/.c")
	finds(t, f,
		row{"/", "*", "e x.y"}, row{"/", "?a", ""}, row{"/", "[.]a", ""}, row{"/", "[!x]*", "e"}, row{"/", "*a", ""}, row{"/", `[\.]a`, ""}, row{"/", "**", "e x.y"},
		row{"/", ".*", "..x .a .b"}, row{"/", `\.*`, "..x .a .b"}, row{"/", ".?", ".a .b"}, row{"/", ".[a-c]", ".a .b"}, row{"/", `\.[.]*`, "..x"}, row{"/", `\\.*`, ""}, row{"/", "*.*", "x.y"},
		row{"/", "*/.c", "e/.c"}, row{"/", "*/.?", "e/.c"}, row{"/", ".*/.c", ".b/.c"}, row{"/", ".b/*", ".b/d"}, row{"/", ".*/*", ".b/d"}, row{"/", "*/?c", ""},
	)
}

// P12.2: texts are paths behind the directory, if they don't begin with a / ; dots in them go where they do in paths.
func TestDirectory(t *testing.T) {
	f := made(t, "/d/ /d/a /d/s/ /d/s/b /e/ /e/c /l>d/s")
	finds(t, f,
		row{"/d", "*", "a s"}, row{"/d/", "*", "a s"}, row{"/d/s", "*", "b"}, row{"", "*", "d e l"}, row{"//", "*", "d e l"}, row{"/l", "*", "b"}, row{"/l", "../*", "../a ../s"},
		row{"/e", "../d/*", "../d/a ../d/s"}, row{"/d", "./*", "./a ./s"}, row{"/d", "*/.", "s/."}, row{"/d", "*/..", "s/.."}, row{"/d", "*/../a", "s/../a"},
		row{"/d", "s/../../?/c", "s/../../e/c"}, row{"/", "../../*", "../../d ../../e ../../l"}, row{"/d/s", "/?/a", "/d/a"},
		row{"d", "*", ""}, row{"d", "/d/*", "/d/a /d/s"}, row{"/none", "*", ""}, row{"/none", "../*", ""}, row{"/d/a", "*", ""}, row{"/d\x00", "*", ""}, row{"/none", "/e/*", "/e/c"},
	)
}

// P12.2: nothing is found by what is not special, there or not, or by what has more than 8192 bytes.
func TestNone(t *testing.T) {
	f := made(t, "/a /b")
	finds(t, f, row{"/", "a", ""}, row{"/", "/a", ""}, row{"/", "", ""}, row{"/", ".", ""}, row{"/", `\a`, ""}, row{"/", "[a", ""})
	for _, around := range [][2]string{{"[", "]"}, {"/[", "]"}, {"./[!", "]"}} {
		set := strings.Repeat("a", api.MaxText-len(around[0])-len(around[1]))
		if l := Expand(f, "/", around[0]+set+around[1]); len(l) != 1 {
			t.Error(around, l)
		}
		if l := Expand(f, "/", around[0]+"a"+set+around[1]); len(l) != 0 {
			t.Error(around, l)
		}
	}
}

// P12.2: no file system finds nothing.
func TestNoFiles(t *testing.T) {
	var d *vtree.Disk
	for _, f := range []*vtree.Files{nil, {}, vtree.New(nil, 0), vtree.New(d, 0), vtree.New(&over.Over{}, 0)} {
		finds(t, f, row{"/", "*", ""}, row{"/", "/*/", ""}, row{"", ".*", ""}, row{"/", "a", ""})
	}
}

// P12.2: behind a path, or a name, that is longer than it may be, or through too many links, nothing is.
func TestLong(t *testing.T) {
	name := strings.Repeat("n", api.MaxName)
	f := made(t, "/d/ /d/a /d/"+name+" /l>. /"+name)
	finds(t, f, row{"/", "n*", name}, row{"/", "*/n*", "d/" + name + " l/" + name}, row{"/", "*/" + name, "d/" + name + " l/" + name}, row{"/", "*/n" + name, ""})
	// A path of 256 bytes is there.
	slashes := strings.Repeat("/", api.MaxPath-2)
	finds(t, f, row{"", slashes + "d*", slashes + "d"}, row{"", slashes + "[d]/", slashes + "d/"}, row{"", slashes + "/[d]/", ""}, row{"", slashes + "[d]//", ""}, row{"", slashes + "d/*", ""})
	finds(t, f, row{slashes + "d", "*", ""}, row{slashes[1:] + "d", "*", "a"}, row{slashes[1:] + "d", "*/", ""})
	// A path goes through eight links.
	links := strings.Repeat("l/", 7)
	finds(t, f, row{"/", links + "l/n*", links + "l/" + name}, row{"/", links + "l/l/n*", ""}, row{"/", links + "l/*", links + "l/d " + links + "l/l " + links + "l/" + name})
	finds(t, f, row{"/", links + "?/n*", links + "d/" + name + " " + links + "l/" + name}, row{"/", links + "l/?/", links + "l/d/"})
}

// P12.2: what is found rises as texts, not directory by directory.
func TestRising(t *testing.T) {
	f := made(t, "/a/ /a/x /a-/ /a-/x /a.b/ /a.b/x /a0/ /a0/x /B/ /B/x /\xff/ /\xff/x")
	finds(t, f, row{"/", "*/x", "B/x a-/x a.b/x a/x a0/x \xff/x"}, row{"/", "a*", "a a- a.b a0"}, row{"/", "a*/", "a-/ a.b/ a/ a0/"})
}

// links are n names of a file, behind a path.
func links(ahead, file string, n int) string {
	s := ""
	for i := range n {
		s += " " + ahead + strconv.Itoa(1000+i) + "=" + file
	}
	return s
}

// P12.2: of more than 256 files the first that are found are told.
func TestMostFound(t *testing.T) {
	for _, n := range []int{api.MaxFields - 1, api.MaxFields, api.MaxFields + 1, 400} {
		f := made(t, "/d/ /x"+links("/d/", "/x", n))
		got := Expand(f, "/d", "*")
		if want := min(n, api.MaxFields); len(got) != want || got[want-1] != strconv.Itoa(999+want) {
			t.Error(n, got)
		}
	}
	// They are found in a/ ahead of a-/ , though their texts rise the other way.
	f := made(t, "/a/ /a-/ /x"+links("/a/", "/x", 200)+links("/a-/", "/x", 200))
	got := Expand(f, "/", "*/*")
	if len(got) != api.MaxFields || got[0] != "a-/1000" || got[55] != "a-/1055" || got[56] != "a/1000" || got[255] != "a/1199" {
		t.Error(got)
	}
	// What isn't there isn't counted.
	f = made(t, "/x"+links("/", "/x", 400))
	fill(t, f, "/1350a/ /1350a/y")
	finds(t, f, row{"/", "*/y", "1350a/y"})
}

// counting is a disk that counts how often a directory's names were asked for.
type counting struct {
	*vtree.Disk
	asked int
}

func (c *counting) Entries(dir int) []api.Entry {
	c.asked++
	return c.Disk.Entries(dir)
}

// counted are files on a disk that counts, as fill makes them.
func counted(t *testing.T, words string) (*vtree.Files, *counting) {
	t.Helper()
	f, d, e := vtree.Open(tree.New(api.Room{Nodes: api.MaxNodes, Bytes: api.MaxBytes}), 0)
	if e != api.OK {
		t.Fatal(e)
	}
	fill(t, f, words)
	c := &counting{Disk: d}
	return vtree.New(c, 0), c
}

// many are n symbolic links, behind a path.
func many(ahead, target string, n int) string {
	return strings.ReplaceAll(links(ahead, target, n), "=", ">")
}

// P12.2: just the first 1024 lists are asked for, whatever is found.
func TestMostLists(t *testing.T) {
	// Behind each of r's links to e there are ten that lead back to r.
	f, c := counted(t, "/e/ /r/ /r/x"+many("/r/", "../e", 100)+many("/e/", "/r", 10))
	for p, want := range map[string]int{
		"x": 0, "*": 1, "*/": 1, "*/x": 1, "10?[0-8]/*": 91, "100?/*/*": 111, "10?[0-8]/*/x*": 991, "1*/*/*": 1024, "1*/*/none*": 1024, "*/*/*/*/*": 1024,
	} {
		c.asked = 0
		if Expand(f, "/r", p); c.asked != want {
			t.Error(p, c.asked, want)
		}
	}
}

// P12.2: a long part held against the names of many lists comes to an end.
func TestLongPart(t *testing.T) {
	f := made(t, "/e/ /r/ /r/x"+many("/r/", "../e", 100)+many("/e/", "/r", 300))
	for _, part := range []string{"?", "*?", "[", "[[]", "*"} {
		want := 0
		if part == "*" {
			want = api.MaxFields
		}
		p := "*/*/" + strings.Repeat(part, 8000/len(part)) + "*"
		if l := Expand(f, "/r", p); len(l) != want {
			t.Error(part, len(l))
		}
	}
}

// P12.2: lists are asked for from the first name on, with all behind it; by those behind the 1024th nothing is found.
func TestOrderOfLists(t *testing.T) {
	for n, want := range map[int]int{1: 10, 1012: 10, 1013: 9, 1017: 5, 1021: 1, 1022: 0, 1023: 0, 1100: 0} {
		// A list of r, one behind each file (it can't be told, but is asked for), one of g, and ten of the root.
		f := made(t, "/g/ /x /r/ /r/z>../g"+links("/r/", "/x", n)+many("/g/", "/", 10))
		finds(t, f, row{"/r", "*/*/x*", through(want)}, row{"/r", "*/*/[x]", through(want)}, row{"/r", "[z]/*/[x-z]", through(10)}, row{"/r", "z/*/x*", through(10)})
		if n < 1023 {
			finds(t, f, row{"/r", "*/*/x", through(10)}, row{"/r", "[!x]*/1000/x*", through(min(1, 1023-n))})
		}
	}
}

// through are the texts of x behind n links in z.
func through(n int) string {
	s := ""
	for i := range n {
		s += " z/" + strconv.Itoa(1000+i) + "/x"
	}
	return s
}

// P12.2: finding files changes nothing, and what is told is the caller's own.
func TestChangesNothing(t *testing.T) {
	f, d, _ := vtree.Open(tree.New(api.Room{Nodes: 9}), 5)
	fill(t, f, "/a /b /d/ /d/a")
	was, clock := d.Tree(), f.Clock()
	l := Expand(f, "/", "*")
	again := append(l[:1], "z", "z", "z", "z")
	finds(t, f, row{"/", "*", "a b d"}, row{"/", "*/*", "d/a"})
	if !slices.EqualFunc(d.Tree().Nodes, was.Nodes, tree.SameNode) || f.Clock() != clock || again[0] != "a" {
		t.Error(d.Tree(), f.Clock())
	}
}
