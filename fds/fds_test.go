package fds

import (
	"math"
	"strings"
	"testing"

	"rehearsal/api"
	"rehearsal/short"
	"rehearsal/tree"
	"rehearsal/vtree"
)

// wrong are numbers that are not from 0 to 9.
var wrong = []int{-1, api.MaxFds, 11, 256, math.MinInt, math.MaxInt}

// signs is a text of n bytes.
func signs(n int) string { return strings.Repeat("x", n) }

// disk are files in directories / and /d, with a symbolic link, and little room.
func disk(t *testing.T) (*vtree.Files, *vtree.Disk) {
	t.Helper()
	f, d, e := vtree.Open(tree.New(api.Room{Nodes: 9, Bytes: 20}), 0)
	if e != api.OK {
		t.Fatal(e)
	}
	for _, e := range []api.Errno{f.Mkdir("/d", 0o755), f.Write("/f", "one\ntwo", api.Exclusive), f.Write("/d/g", "g", api.Exclusive), f.Symlink("../f", "/d/l")} {
		if e != api.OK {
			t.Fatal(e)
		}
	}
	return f, d
}

// made is a table on such files.
func made(t *testing.T, stdin string) (*Table, *vtree.Files) {
	t.Helper()
	f, _ := disk(t)
	return New(f, stdin), f
}

// opens redirects a number, which must be answered by an error.
func opens(t *testing.T, x *Table, dir string, fd int, op, target string, want api.Errno) {
	t.Helper()
	if e := x.Open(dir, fd, op, target); e != want {
		t.Errorf("Open(%q, %d, %q, %q) = %d; want %d", dir, fd, op, target, e, want)
	}
}

// writes writes a text, which must be answered by an error.
func writes(t *testing.T, x *Table, fd int, s string, want api.Errno) {
	t.Helper()
	if e := x.Write(fd, s); e != want {
		t.Errorf("Write(%d, %d bytes) = %d; want %d", fd, len(s), e, want)
	}
}

// reads checks all that is left of an input, which is read by that.
func reads(t *testing.T, x *Table, fd int, want string) {
	t.Helper()
	for _, want := range []string{want, ""} {
		if s, e := x.Read(fd); s != want || e != api.OK {
			t.Errorf("Read(%d) = %q, %d; want %q", fd, s, e, want)
		}
	}
}

// line checks the line that is read.
func line(t *testing.T, x *Table, fd int, want string, ended bool) {
	t.Helper()
	if s, ok, e := x.Line(fd); s != want || ok != ended || e != api.OK {
		t.Errorf("Line(%d) = %q, %v, %d; want %q, %v", fd, s, ok, e, want, ended)
	}
}

// shut checks that an input can't be read from a number.
func shut(t *testing.T, x *Table, fd int, want api.Errno) {
	t.Helper()
	if s, e := x.Read(fd); s != "" || e != want {
		t.Errorf("Read(%d) = %q, %d; want error %d", fd, s, e, want)
	}
	if s, ok, e := x.Line(fd); s != "" || ok || e != want {
		t.Errorf("Line(%d) = %q, %v, %d; want error %d", fd, s, ok, e, want)
	}
}

// nothing checks that numbers stand for nothing.
func nothing(t *testing.T, x *Table, numbers ...int) {
	t.Helper()
	for _, fd := range numbers {
		shut(t, x, fd, api.ErrNone)
		writes(t, x, fd, "x", api.ErrNone)
		writes(t, x, fd, "", api.ErrNone)
		catches(t, x, fd, "")
	}
}

// catches checks what is in the buffer that a number stands for.
func catches(t *testing.T, x *Table, fd int, want string) {
	t.Helper()
	if s := x.Caught(fd); s != want {
		t.Errorf("Caught(%d) = %q; want %q", fd, s, want)
	}
}

// has checks what a file has.
func has(t *testing.T, f *vtree.Files, p, want string) {
	t.Helper()
	if s, e := f.Read(p); s != want || e != api.OK {
		t.Errorf("%s is %q, %d; want %q", p, s, e, want)
	}
}

// P14.1: 0 stands for an input, 1 and 2 each for a buffer, all others for nothing.
func TestNew(t *testing.T) {
	x, _ := made(t, "in\n")
	nothing(t, x, 3, 4, 5, 6, 7, 8, 9)
	writes(t, x, 0, "x", api.ErrNone)
	catches(t, x, 0, "")
	for _, fd := range []int{1, 2} {
		shut(t, x, fd, api.ErrNone)
		catches(t, x, fd, "")
	}
	writes(t, x, 1, "out", api.OK)
	writes(t, x, 2, "err", api.OK)
	catches(t, x, 1, "out")
	catches(t, x, 2, "err")
	reads(t, x, 0, "in\n")
	x, _ = made(t, "")
	reads(t, x, 0, "")
	catches(t, x, 1, "")
}

// P14.1: files are f's, also where there are none.
func TestNewFiles(t *testing.T) {
	a, f := made(t, "")
	b, g := made(t, "")
	opens(t, a, "/", 1, ">", "n", api.OK)
	opens(t, b, "/", 1, ">", "n", api.OK)
	writes(t, a, 1, "a", api.OK)
	writes(t, b, 1, "b", api.OK)
	has(t, f, "/n", "a")
	has(t, g, "/n", "b")
	for _, f := range []*vtree.Files{nil, {}} {
		x := New(f, "in")
		for _, op := range []string{"<", ">", ">>"} {
			opens(t, x, "/", 0, op, "f", api.ErrNil)
		}
		opens(t, x, "/", 3, ">&", "1", api.OK)
		writes(t, x, 3, "out", api.OK)
		catches(t, x, 1, "out")
		reads(t, x, 0, "in")
	}
}

// P14.1, P14.5: a copy's numbers stand for the same things; what they are redirected to is its own.
func TestCopy(t *testing.T) {
	a, f := made(t, "1\n2\n3")
	opens(t, a, "/", 3, ">", "n", api.OK)
	b := a.Copy()
	c := b.Copy()
	line(t, b, 0, "1", true)
	line(t, c, 0, "2", true)
	reads(t, a, 0, "3")
	reads(t, b, 0, "")
	for _, x := range []*Table{a, b, c} {
		writes(t, x, 1, "o", api.OK)
		writes(t, x, 2, "e", api.OK)
		writes(t, x, 3, "n", api.OK)
	}
	for _, x := range []*Table{a, b, c} {
		catches(t, x, 1, "ooo")
		catches(t, x, 2, "eee")
		nothing(t, x, 4, 9)
	}
	has(t, f, "/n", "nnn")
	opens(t, b, "/", 1, ">&", "-", api.OK)
	opens(t, b, "/", 4, ">&", "2", api.OK)
	b.Feed(0, "b")
	c.Catch(2)
	a.Feed(9, "a")
	writes(t, a, 1, "a", api.OK)
	writes(t, c, 2, "c", api.OK)
	nothing(t, b, 1, 9)
	nothing(t, c, 4, 9)
	nothing(t, a, 4)
	catches(t, a, 1, "oooa")
	catches(t, c, 1, "oooa")
	catches(t, a, 2, "eee")
	catches(t, b, 4, "eee")
	catches(t, c, 2, "c")
	reads(t, c, 0, "")
	reads(t, b, 0, "b")
	reads(t, a, 9, "a")
}

// P14.2: < is what was read then, whatever comes of the file.
func TestOpenRead(t *testing.T) {
	x, f := made(t, "in")
	opens(t, x, "/", 0, "<", "f", api.OK)
	opens(t, x, "/d", 3, "<", "l", api.OK)
	opens(t, x, "/none", 9, "<", "/d/../d/g", api.OK)
	opens(t, x, "/d/", 1, "<", "../f", api.OK)
	opens(t, x, "", 2, "<", "d/g", api.OK)
	if e := f.Unlink("/f"); e != api.OK {
		t.Fatal(e)
	}
	line(t, x, 0, "one", true)
	line(t, x, 3, "one", true)
	line(t, x, 3, "two", false)
	reads(t, x, 0, "two")
	reads(t, x, 9, "g")
	reads(t, x, 2, "g")
	writes(t, x, 1, "x", api.ErrNone)
	catches(t, x, 1, "")
	reads(t, x, 1, "one\ntwo")
}

// P14.2: > makes a file empty, >> leaves what it has; each makes one, and its path is kept.
func TestOpenWrite(t *testing.T) {
	x, f := made(t, "in")
	opens(t, x, "/d", 0, ">", "l", api.OK)
	has(t, f, "/f", "")
	opens(t, x, "/d", 3, ">>", "g", api.OK)
	has(t, f, "/d/g", "g")
	opens(t, x, "/d/", 4, ">", "n", api.OK)
	opens(t, x, "d", 5, ">>", "/d/m", api.OK)
	has(t, f, "/d/n", "")
	has(t, f, "/d/m", "")
	if i, e := f.Stat("/d/m", false); i.Mode != 0o644 || e != api.OK {
		t.Error(i, e)
	}
	for _, fd := range []int{0, 3, 4, 5} {
		shut(t, x, fd, api.ErrNone)
		writes(t, x, fd, "a", api.OK)
		writes(t, x, fd, "b", api.OK)
		catches(t, x, fd, "")
	}
	has(t, f, "/f", "ab")
	has(t, f, "/d/g", "gab")
	has(t, f, "/d/n", "ab")
	has(t, f, "/d/m", "ab")
}

// P14.2: a file is opened by a write of nothing, which gives it another time, by >> too.
func TestOpenTime(t *testing.T) {
	x, f := made(t, "")
	for _, op := range []string{">>", ">", ">>"} {
		was := f.Clock()
		opens(t, x, "/", 1, op, "f", api.OK)
		if i, e := f.Stat("/f", true); i.Time != was+1 || f.Clock() != was+1 || e != api.OK {
			t.Error(op, i, e, f.Clock())
		}
	}
}

// P14.2: a number stands for what a digit does, or for nothing; the two signs are alike.
func TestOpenLike(t *testing.T) {
	for _, op := range []string{"<&", ">&"} {
		x, f := made(t, "1\n2\n3")
		opens(t, x, "/", 8, ">", "n", api.OK)
		for fd, digit := range map[int]string{3: "0", 4: "1", 9: "8", 2: "2", 0: "0"} {
			opens(t, x, "/none", fd, op, digit, api.OK)
		}
		line(t, x, 3, "1", true)
		line(t, x, 0, "2", true)
		reads(t, x, 3, "3")
		writes(t, x, 4, "a", api.OK)
		writes(t, x, 1, "b", api.OK)
		catches(t, x, 4, "ab")
		catches(t, x, 2, "")
		writes(t, x, 9, "c", api.OK)
		writes(t, x, 8, "d", api.OK)
		has(t, f, "/n", "cd")
		opens(t, x, "", 1, op, "9", api.OK)
		writes(t, x, 1, "e", api.OK)
		catches(t, x, 4, "ab")
		has(t, f, "/n", "cde")
		for _, fd := range []int{0, 1, 9, 7} {
			opens(t, x, "", fd, op, "-", api.OK)
		}
		nothing(t, x, 0, 1, 9, 7)
		writes(t, x, 8, "f", api.OK)
		has(t, f, "/n", "cdef")
	}
}

// P14.2: a target of a & that is neither one digit nor a - , and a digit that stands for nothing.
func TestOpenLikeErrors(t *testing.T) {
	for _, op := range []string{"<&", ">&"} {
		x, f := made(t, "")
		for _, target := range append(short.Texts("-+0129f/ \x00", 3), "½", "\xb2", ":", "00000000000000000001") {
			want := api.ErrArg
			switch target {
			case "-", "0", "1", "2":
				want = api.OK
			case "9":
				want = api.ErrNone
			}
			opens(t, x, "/", 4, op, target, want)
		}
		for _, digit := range []string{"3", "4", "5", "6", "7", "8", "9"} {
			opens(t, x, "/", 4, op, "-", api.OK)
			opens(t, x, "/", 4, op, digit, api.ErrNone)
			opens(t, x, "/", 1, op, digit, api.ErrNone)
		}
		writes(t, x, 1, "kept", api.OK)
		catches(t, x, 1, "kept")
		if l, e := f.List("/"); len(l) != 2 || e != api.OK {
			t.Error(l, e)
		}
	}
}

// P14.2: all other signs are none, whatever the target is.
func TestOpenOps(t *testing.T) {
	x, f := made(t, "in")
	clock := f.Clock()
	right := " < > >> <& >& "
	for _, op := range append(short.Texts("<>&-| ", 4), "1>", "open", "\x00", "≥") {
		if op != "" && !strings.Contains(op, " ") && strings.Contains(right, " "+op+" ") {
			continue
		}
		for _, target := range []string{"f", "/n", "1", "-", "", "none"} {
			for fd := range api.MaxFds {
				opens(t, x, "/", fd, op, target, api.ErrArg)
			}
		}
	}
	nothing(t, x, 3, 9)
	reads(t, x, 0, "in")
	if f.Clock() != clock {
		t.Error(f.Clock())
	}
	has(t, f, "/f", "one\ntwo")
}

// P14.2: the errors of files are told; the number stands for what it did, and no file is another one.
func TestOpenErrors(t *testing.T) {
	f, d := disk(t)
	was, clock := d.Tree(), f.Clock()
	for _, c := range []struct {
		dir, target string
		in, out     api.Errno
	}{
		{"/", "", api.NoEntry, api.NoEntry},
		{"/", "none", api.NoEntry, api.OK},
		{"/none", "f", api.NoEntry, api.NoEntry},
		{"/", "d", api.IsDir, api.IsDir},
		{"/d", ".", api.IsDir, api.IsDir},
		{"/", "none/", api.NoEntry, api.IsDir},
		{"/", "f/", api.NotDir, api.NotDir},
		{"/f", "x", api.NotDir, api.NotDir},
		{"d", "g", api.Invalid, api.Invalid},
		{"/", "f\x00", api.Invalid, api.Invalid},
		{"/", signs(api.MaxName + 1), api.LongName, api.LongName},
		{"/" + strings.Repeat("d/../", 51), "f", api.LongName, api.LongName},
	} {
		for op, want := range map[string]api.Errno{"<": c.in, ">": c.out, ">>": c.out} {
			if want == api.OK {
				continue
			}
			x := New(f, "in")
			for _, fd := range []int{0, 1, 2, 3} {
				opens(t, x, c.dir, fd, op, c.target, want)
			}
			reads(t, x, 0, "in")
			writes(t, x, 1, "out", api.OK)
			catches(t, x, 1, "out")
			nothing(t, x, 3)
		}
	}
	if !tree.Same(d.Tree(), was) || f.Clock() != clock {
		t.Error(d.Tree())
	}
}

// P14.2: there is no room for a file; one that is there can be opened then.
func TestOpenRoom(t *testing.T) {
	f, _, _ := vtree.Open(tree.New(api.Room{Nodes: 2}), 0)
	x := New(f, "")
	opens(t, x, "/", 1, ">", "f", api.OK)
	for _, op := range []string{">", ">>"} {
		opens(t, x, "/", 1, op, "g", api.NoSpace)
		opens(t, x, "/", 1, op, "f", api.OK)
	}
	opens(t, x, "/", 3, "<", "f", api.OK)
	reads(t, x, 3, "")
}

// P14.3: an empty text is nothing: a file that is no more isn't made, and one that is there keeps its time.
func TestWriteEmpty(t *testing.T) {
	x, f := made(t, "in")
	opens(t, x, "/", 3, ">", "n", api.OK)
	clock := f.Clock()
	writes(t, x, 3, "", api.OK)
	writes(t, x, 1, "", api.OK)
	if f.Clock() != clock {
		t.Error(f.Clock())
	}
	if e := f.Unlink("/n"); e != api.OK {
		t.Fatal(e)
	}
	writes(t, x, 3, "", api.OK)
	if _, e := f.Stat("/n", false); e != api.NoEntry {
		t.Error(e)
	}
	writes(t, x, 0, "", api.ErrNone)
	writes(t, x, 4, "", api.ErrNone)
	reads(t, x, 0, "in")
}

// P14.3: into a file it is written by its path: what lies there then has the text behind what it had, or is made, or can't be written.
func TestWritePath(t *testing.T) {
	x, f := made(t, "")
	opens(t, x, "/d", 1, ">", "n", api.OK)
	writes(t, x, 1, "1", api.OK)
	do := func(e api.Errno) {
		t.Helper()
		if e != api.OK {
			t.Fatal(e)
		}
	}
	do(f.Rename("/d/n", "/d/old"))
	writes(t, x, 1, "2", api.OK)
	has(t, f, "/d/old", "1")
	has(t, f, "/d/n", "2")
	do(f.Write("/d/n", "new", api.Truncate))
	writes(t, x, 1, "3", api.OK)
	has(t, f, "/d/n", "new3")
	do(f.Unlink("/d/n"))
	do(f.Symlink("g", "/d/n"))
	writes(t, x, 1, "4", api.OK)
	has(t, f, "/d/g", "g4")
	do(f.Unlink("/d/n"))
	do(f.Mkdir("/d/n", 0o755))
	writes(t, x, 1, "5", api.IsDir)
	do(f.Rename("/d", "/e"))
	writes(t, x, 1, "6", api.NoEntry)
	do(f.Write("/d", "", api.Exclusive))
	writes(t, x, 1, "7", api.NotDir)
	writes(t, x, 1, "", api.OK)
	do(f.Unlink("/d"))
	do(f.Rename("/e", "/d"))
	do(f.Rmdir("/d/n"))
	writes(t, x, 1, "8", api.OK)
	has(t, f, "/d/n", "8")
}

// P14.3: a file's errors are told, and nothing is written then.
func TestWriteFull(t *testing.T) {
	x, f := made(t, "")
	opens(t, x, "/", 1, ">>", "f", api.OK)
	writes(t, x, 1, signs(9), api.NoSpace)
	has(t, f, "/f", "one\ntwo")
	writes(t, x, 1, signs(8), api.OK)
	writes(t, x, 1, "x", api.NoSpace)
	has(t, f, "/f", "one\ntwo"+signs(8))
	f, _, _ = vtree.Open(tree.New(api.Room{Nodes: 9, Bytes: api.MaxBytes}), 0)
	x = New(f, "")
	opens(t, x, "/", 1, ">", "f", api.OK)
	writes(t, x, 1, signs(api.MaxData+1), api.NoSpace)
	writes(t, x, 1, signs(api.MaxData), api.OK)
	writes(t, x, 1, "x", api.NoSpace)
	has(t, f, "/f", signs(api.MaxData))
}

// P14.3: a buffer has at most MaxOut bytes; what would be more isn't written, not in part either.
func TestWriteLimit(t *testing.T) {
	x, _ := made(t, "")
	writes(t, x, 1, signs(api.MaxOut+1), api.ErrLimit)
	catches(t, x, 1, "")
	writes(t, x, 1, signs(api.MaxOut-1), api.OK)
	writes(t, x, 1, "ab", api.ErrLimit)
	writes(t, x, 1, "", api.OK)
	writes(t, x, 1, "a", api.OK)
	writes(t, x, 1, "b", api.ErrLimit)
	writes(t, x, 1, "", api.OK)
	catches(t, x, 1, signs(api.MaxOut-1)+"a")
	writes(t, x, 2, signs(api.MaxOut), api.OK)
	writes(t, x, 2, "b", api.ErrLimit)
	catches(t, x, 2, signs(api.MaxOut))
	x.Catch(1)
	writes(t, x, 1, "b", api.OK)
	catches(t, x, 1, "b")
}

// P14.3: a buffer that several numbers stand for has one limit.
func TestWriteLimitShared(t *testing.T) {
	x, _ := made(t, "")
	opens(t, x, "/", 2, ">&", "1", api.OK)
	c := x.Copy()
	writes(t, x, 1, signs(api.MaxOut/2), api.OK)
	writes(t, c, 2, signs(api.MaxOut/2), api.OK)
	for _, fd := range []int{1, 2} {
		writes(t, x, fd, "a", api.ErrLimit)
		writes(t, c, fd, "a", api.ErrLimit)
	}
}

// P14.3: any bytes are written as they are.
func TestWriteBytes(t *testing.T) {
	x, f := made(t, "")
	opens(t, x, "/", 3, ">", "n", api.OK)
	for _, fd := range []int{1, 3} {
		writes(t, x, fd, "\x00\n\xff", api.OK)
		writes(t, x, fd, "é\r\n", api.OK)
	}
	catches(t, x, 1, "\x00\n\xffé\r\n")
	has(t, f, "/n", "\x00\n\xffé\r\n")
}

// P14.3: a line is what is left up to a newline; the last one may have none.
func TestLine(t *testing.T) {
	x, _ := made(t, "one\n\n two \r\n\x00\xff\nend")
	line(t, x, 0, "one", true)
	line(t, x, 0, "", true)
	line(t, x, 0, " two \r", true)
	line(t, x, 0, "\x00\xff", true)
	line(t, x, 0, "end", false)
	line(t, x, 0, "", false)
	line(t, x, 0, "", false)
	reads(t, x, 0, "")
}

// P14.3: what is left behind some lines is read; what was read is read no more.
func TestRead(t *testing.T) {
	x, _ := made(t, "one\ntwo\n\nend\n")
	line(t, x, 0, "one", true)
	reads(t, x, 0, "two\n\nend\n")
	line(t, x, 0, "", false)
	x, _ = made(t, "all\x00\xff\n\n")
	reads(t, x, 0, "all\x00\xff\n\n")
	x, _ = made(t, "a\n")
	line(t, x, 0, "a", true)
	reads(t, x, 0, "")
	line(t, x, 0, "", false)
}

// P14.3, P14.5: what all short inputs are read as, line by line, and behind some lines all at once.
func TestShortInputs(t *testing.T) {
	for _, s := range short.Texts("a\n\x00", 7) {
		lines := strings.Split(s, "\n")
		for n := range len(lines) + 1 {
			x := New(nil, s)
			for i, want := range lines[:n] {
				line(t, x, 0, want, i < len(lines)-1)
			}
			reads(t, x, 0, strings.Join(lines[n:], "\n"))
		}
	}
}

// P14.5: an input of very many lines is read.
func TestManyLines(t *testing.T) {
	const n = 1 << 20
	x := New(nil, strings.Repeat("l\n", n)+"end")
	c := x.Copy()
	for range n / 2 {
		line(t, x, 0, "l", true)
		line(t, c, 0, "l", true)
	}
	line(t, x, 0, "end", false)
	reads(t, c, 0, "")
}

// P14.4: each number can be fed; what others stand for stays.
func TestFeed(t *testing.T) {
	x, f := made(t, "in")
	opens(t, x, "/", 3, ">", "n", api.OK)
	opens(t, x, "/", 4, "<&", "0", api.OK)
	opens(t, x, "/", 5, ">&", "1", api.OK)
	for fd := range api.MaxFds {
		x.Feed(fd, "a\n"+signs(fd))
		if fd == 0 {
			reads(t, x, 4, "in")
		}
		if fd == 1 {
			writes(t, x, 5, "out", api.OK)
			catches(t, x, 5, "out")
		}
	}
	for fd := range api.MaxFds {
		writes(t, x, fd, "x", api.ErrNone)
		catches(t, x, fd, "")
		line(t, x, fd, "a", true)
		reads(t, x, fd, signs(fd))
	}
	x.Feed(0, "first")
	x.Feed(0, "second")
	reads(t, x, 0, "second")
	x.Feed(0, "")
	reads(t, x, 0, "")
	has(t, f, "/n", "")
}

// P14.4: each number can stand for a buffer of its own; what others stand for stays.
func TestCatch(t *testing.T) {
	x, f := made(t, "in")
	opens(t, x, "/", 3, ">", "n", api.OK)
	opens(t, x, "/", 4, "<&", "0", api.OK)
	opens(t, x, "/", 5, ">&", "1", api.OK)
	writes(t, x, 1, "out", api.OK)
	for fd := range 4 {
		x.Catch(fd)
	}
	catches(t, x, 5, "out")
	reads(t, x, 4, "in")
	for fd := range api.MaxFds {
		x.Catch(fd)
	}
	for fd := range api.MaxFds {
		shut(t, x, fd, api.ErrNone)
		catches(t, x, fd, "")
		writes(t, x, fd, signs(fd+1), api.OK)
	}
	for fd := range api.MaxFds {
		catches(t, x, fd, signs(fd+1))
		catches(t, x, fd, signs(fd+1))
	}
	x.Catch(9)
	catches(t, x, 9, "")
	has(t, f, "/n", "")
}

// P14.4: only what is in a buffer is caught.
func TestCaught(t *testing.T) {
	x, _ := made(t, "in")
	opens(t, x, "/", 3, ">", "n", api.OK)
	opens(t, x, "/", 4, "<", "f", api.OK)
	writes(t, x, 3, "x", api.OK)
	for _, fd := range []int{0, 1, 2, 3, 4, 5} {
		catches(t, x, fd, "")
	}
	writes(t, x, 1, "a", api.OK)
	was := x.Caught(1)
	writes(t, x, 1, "b", api.OK)
	catches(t, x, 1, "ab")
	if was != "a" {
		t.Error("what was caught has changed:", was)
	}
}

// P14.5: what is written by any number of any table is caught by all that stand for the buffer.
func TestShared(t *testing.T) {
	x, _ := made(t, "")
	opens(t, x, "/", 2, ">&", "1", api.OK)
	c := x.Copy()
	opens(t, c, "/", 9, ">&", "2", api.OK)
	opens(t, x, "/", 1, ">", "n", api.OK)
	writes(t, x, 2, "a", api.OK)
	writes(t, c, 1, "b", api.OK)
	writes(t, x, 1, "no", api.OK)
	writes(t, c, 9, "c", api.OK)
	catches(t, x, 1, "")
	catches(t, x, 2, "abc")
	for _, fd := range []int{1, 2, 9} {
		catches(t, c, fd, "abc")
	}
}

// P14.2, P14.3: the example of the chapter.
func TestExample(t *testing.T) {
	x, f := made(t, "")
	opens(t, x, "/", 1, ">", "f", api.OK)
	opens(t, x, "/", 2, ">&", "1", api.OK)
	writes(t, x, 1, "a", api.OK)
	writes(t, x, 2, "b", api.OK)
	has(t, f, "/f", "ab")
}

// P14.2, P14.3, P14.4: a number that is not from 0 to 9 is ErrArg, ahead of all other errors, and nothing changes.
func TestWrong(t *testing.T) {
	x, f := made(t, "in")
	clock := f.Clock()
	for _, fd := range wrong {
		for _, op := range []string{"<", ">", ">>", "<&", ">&", "", "<>"} {
			for _, target := range []string{"f", "n", "", "none", "d", "1", "9", "-"} {
				opens(t, x, "/", fd, op, target, api.ErrArg)
			}
		}
		writes(t, x, fd, "x", api.ErrArg)
		writes(t, x, fd, "", api.ErrArg)
		writes(t, x, fd, signs(api.MaxOut+1), api.ErrArg)
		shut(t, x, fd, api.ErrArg)
		x.Feed(fd, "fed")
		x.Catch(fd)
		catches(t, x, fd, "")
		shut(t, x, fd, api.ErrArg)
	}
	nothing(t, x, 3, 4, 5, 6, 7, 8, 9)
	catches(t, x, 1, "")
	reads(t, x, 0, "in")
	if f.Clock() != clock {
		t.Error(f.Clock())
	}
}

// P14.1 to P14.4, and DOC.md, Ends: a table that is nil, or that no call made, answers ErrNil and zeros, and stays so.
func TestNone(t *testing.T) {
	for _, x := range []*Table{nil, {}} {
		for _, fd := range append(wrong, 0, 1, 2, 3, 9) {
			for _, op := range []string{"<", ">", ">>", "<&", ">&", ""} {
				for _, target := range []string{"f", "", "1", "-"} {
					opens(t, x, "/", fd, op, target, api.ErrNil)
				}
			}
			x.Feed(fd, "fed")
			shut(t, x, fd, api.ErrNil)
			x.Catch(fd)
			for _, s := range []string{"", "x", signs(api.MaxOut + 1)} {
				writes(t, x, fd, s, api.ErrNil)
			}
			catches(t, x, fd, "")
		}
		if x.Copy() != nil {
			t.Error("a copy of nothing")
		}
	}
}
