package fds

import (
	"fmt"
	"maps"
	"math/rand"
	"regexp"
	"slices"
	"strings"
	"testing"

	"rehearsal/acts"
	"rehearsal/api"
	"rehearsal/over"
	"rehearsal/path"
	"rehearsal/short"
	"rehearsal/tree"
	"rehearsal/vtree"
)

// The chapter's words, said once more: all things lie in one list, an input with how much of it was read, a buffer as all that was written; a table is a map to places in the list.

// item is a thing.
type item struct {
	kind    string // input, buffer, file
	text    string // of a file its path
	read    int
	written []string
}

// world is files, and all things that there ever were.
type world struct {
	f     *vtree.Files
	items []item
}

// plain is what a table has.
type plain struct {
	w  *world
	at map[int]int
}

// newPlain is a table as it is at first.
func newPlain(f *vtree.Files, stdin string) *plain {
	p := &plain{&world{f: f}, map[int]int{}}
	p.stand(0, item{kind: "input", text: stdin})
	p.stand(1, item{kind: "buffer"})
	p.stand(2, item{kind: "buffer"})
	return p
}

// stand lets a number stand for a new thing.
func (p *plain) stand(fd int, x item) api.Errno {
	p.w.items = append(p.w.items, x)
	p.at[fd] = len(p.w.items) - 1
	return api.OK
}

// of is the thing that a number stands for.
func (p *plain) of(fd int) item {
	if at, ok := p.at[fd]; ok {
		return p.w.items[at]
	}
	return item{}
}

var (
	oneDigit = regexp.MustCompile(`\A[0-9]\z`)
	mayFd    = map[int]int{0: 1, 1: 1, 2: 1, 3: 1, 4: 1, 5: 1, 6: 1, 7: 1, 8: 1, 9: 1}
)

func (p *plain) open(dir string, fd int, op, target string) api.Errno {
	if mayFd[fd] == 0 {
		return api.ErrArg
	}
	if strings.HasSuffix(op, "&") && len(op) == 2 && strings.Contains("<>", op[:1]) {
		return p.like(fd, target)
	}
	if !strings.HasPrefix(target, "/") && target != "" {
		target = path.Join(dir, target)
	}
	x := item{kind: "file", text: target}
	e := api.ErrArg
	if op == "<" {
		x.kind = "input"
		x.text, e = p.w.f.Read(target)
	}
	if how := map[string]int{">": api.Truncate, ">>": api.Append}[op]; how != 0 {
		e = p.w.f.Write(target, "", how)
	}
	if e == api.OK {
		p.stand(fd, x)
	}
	return e
}

func (p *plain) like(fd int, target string) api.Errno {
	if target == "-" {
		delete(p.at, fd)
		return api.OK
	}
	if !oneDigit.MatchString(target) {
		return api.ErrArg
	}
	at, ok := p.at[strings.Index("0123456789", target)]
	if !ok {
		return api.ErrNone
	}
	p.at[fd] = at
	return api.OK
}

func (p *plain) write(fd int, s string) api.Errno {
	x := p.of(fd)
	switch {
	case mayFd[fd] == 0:
		return api.ErrArg
	case x.kind == "" || x.kind == "input":
		return api.ErrNone
	case s == "":
		return api.OK
	case x.kind == "file":
		return p.w.f.Write(x.text, s, api.Append)
	case len(strings.Join(x.written, ""))+len(s) > 16384:
		return api.ErrLimit
	}
	x.written = append(slices.Clone(x.written), s)
	p.w.items[p.at[fd]] = x
	return api.OK
}

// take reads an input up to some end behind what was read.
func (p *plain) take(fd int, end func(left string) int) (string, api.Errno) {
	x := p.of(fd)
	switch {
	case mayFd[fd] == 0:
		return "", api.ErrArg
	case x.kind != "input":
		return "", api.ErrNone
	}
	from := x.read
	x.read += end(x.text[from:])
	p.w.items[p.at[fd]] = x
	return x.text[from:x.read], api.OK
}

func (p *plain) readAll(fd int) (string, api.Errno) {
	return p.take(fd, func(left string) int { return len(left) })
}

var lineSign = regexp.MustCompile(`\A[^\n]*\n?`)

func (p *plain) line(fd int) (string, bool, api.Errno) {
	s, e := p.take(fd, func(left string) int { return len(lineSign.FindString(left)) })
	bare, ended := strings.CutSuffix(s, "\n")
	return bare, ended, e
}

func (p *plain) caught(fd int) string {
	return strings.Join(p.of(fd).written, "")
}

// same is a table on a disk, one above a frozen tree, and what both should be.
type same struct {
	tables []*Table
	p      *plain
}

// runs are tables made by copies, with the files that they are on.
type runs struct {
	files  []*vtree.Files
	trees  []func() api.Tree
	frozen api.Tree
	lower  func() api.Tree
	tables []same
}

// begin is one table on usual files.
func begin(t *testing.T, stdin string) *runs {
	t.Helper()
	x := acts.Tree(api.Room{Nodes: 16, Bytes: 60})
	f, d, e := vtree.Open(x, 0)
	g, o, _ := over.Open(x, 0)
	h, b, _ := vtree.Open(x, 0)
	if e != api.OK {
		t.Fatal(e)
	}
	return &runs{
		files:  []*vtree.Files{f, g, h},
		trees:  []func() api.Tree{d.Tree, o.Tree, b.Tree},
		frozen: x,
		lower:  o.Lower,
		tables: []same{{[]*Table{New(f, stdin), New(g, stdin)}, newPlain(h, stdin)}},
	}
}

// act is something that is done with a table, or with its files, and what is told of it.
type act struct {
	what  string
	do    func(x *Table) string
	plain func(p *plain) string
}

// some is an act by chance.
func some(r *rand.Rand) act {
	fd := r.Intn(7)
	if r.Intn(10) == 0 {
		fd = r.Intn(14) - 2
	}
	pick := func(l ...string) string { return l[r.Intn(len(l))] }
	s := pick("", "a", "b\n", "c\n\nd", "\x00", signs(100), signs(3000), signs(8000))
	dir, target := pick("/", "/d", "/d/", "/none", "", "x"), pick(append(acts.Paths(), "f", "x", "n", "d", "l", "../f", "d/x")...)
	op := pick("<", ">", ">>", "<", ">", ">>", "", "<>")
	if r.Intn(2) == 0 {
		op, target = pick("<&", ">&"), pick("0", "1", "2", "3", "4", "5", "6", "-", "9", "10", "")
	}
	switch r.Intn(9) {
	case 0, 1, 2:
		return act{fmt.Sprint("Open", fd, op, target), func(x *Table) string { return fmt.Sprint(x.Open(dir, fd, op, target)) }, func(p *plain) string { return fmt.Sprint(p.open(dir, fd, op, target)) }}
	case 3, 4:
		return act{fmt.Sprint("Write", fd, len(s)), func(x *Table) string { return fmt.Sprint(x.Write(fd, s)) }, func(p *plain) string { return fmt.Sprint(p.write(fd, s)) }}
	case 5, 6:
		return act{fmt.Sprint("Line", fd), func(x *Table) string { return fmt.Sprint(x.Line(fd)) }, func(p *plain) string { return fmt.Sprint(p.line(fd)) }}
	case 7:
		if r.Intn(3) == 0 {
			return act{fmt.Sprint("Read", fd), func(x *Table) string { return fmt.Sprint(x.Read(fd)) }, func(p *plain) string { return fmt.Sprint(p.readAll(fd)) }}
		}
		return act{fmt.Sprint("Feed", fd), func(x *Table) string { x.Feed(fd, s); return "" }, func(p *plain) string {
			if mayFd[fd] == 1 {
				p.stand(fd, item{kind: "input", text: s})
			}
			return ""
		}}
	}
	return act{fmt.Sprint("Catch", fd), func(x *Table) string { x.Catch(fd); return "" }, func(p *plain) string {
		if mayFd[fd] == 1 {
			p.stand(fd, item{kind: "buffer"})
		}
		return ""
	}}
}

// alike checks that all files are the same, and that all tables catch what they should.
func (u *runs) alike(t *testing.T, what string) {
	t.Helper()
	for i, f := range u.files {
		if f.Clock() != u.files[2].Clock() || !tree.Same(u.trees[i](), u.trees[2]()) {
			t.Fatal(what, i, u.trees[i](), u.trees[2]())
		}
	}
	for _, s := range u.tables {
		for fd := -1; fd <= api.MaxFds; fd++ {
			for _, x := range s.tables {
				if got, want := x.Caught(fd), s.p.caught(fd); got != want {
					t.Fatalf("%s: Caught(%d) has %d bytes; want %d", what, fd, len(got), len(want))
				}
			}
		}
	}
}

// does does something with one of the tables.
func (u *runs) does(t *testing.T, s same, a act) {
	t.Helper()
	want := a.plain(s.p)
	for _, x := range s.tables {
		if got := a.do(x); got != want {
			t.Fatalf("%s: %s; want %s", a.what, got, want)
		}
	}
}

// copies copies one of the tables, in the place of an old one.
func (u *runs) copies(s same) {
	c := same{nil, &plain{s.p.w, maps.Clone(s.p.at)}}
	for _, x := range s.tables {
		c.tables = append(c.tables, x.Copy())
	}
	u.tables = append(u.tables, c)
	u.tables = u.tables[max(0, len(u.tables)-4):]
}

// P14.1 to P14.5: long runs of calls, on tables and their copies, on a disk and above a frozen tree, with calls on their files between.
func TestRuns(t *testing.T) {
	for seed := range int64(60) {
		r := rand.New(rand.NewSource(seed))
		u := begin(t, strings.Repeat("l\n\nm", int(seed)))
		for i, a := range acts.Some(acts.Paths(), uint64(seed), 300) {
			s := u.tables[r.Intn(len(u.tables))]
			x := some(r)
			u.does(t, s, x)
			u.alike(t, x.what)
			if r.Intn(20) == 0 {
				u.copies(s)
			}
			if i%4 == 0 {
				for _, f := range u.files {
					a.Do(f)
				}
			}
		}
		u.drain(t)
		if !slices.EqualFunc(u.lower().Nodes, u.frozen.Nodes, tree.SameNode) {
			t.Fatal("what lies below has changed")
		}
	}
}

// drain reads all inputs of all tables, line by line.
func (u *runs) drain(t *testing.T) {
	t.Helper()
	for _, s := range u.tables {
		for fd := range api.MaxFds {
			for ended := true; ended; {
				want, more, e := s.p.line(fd)
				for _, x := range s.tables {
					line, ok, err := x.Line(fd)
					if line != want || ok != more || err != e {
						t.Fatalf("Line(%d) = %q, %v, %d; want %q, %v, %d", fd, line, ok, err, want, more, e)
					}
				}
				ended = more
			}
		}
	}
}

// P14.2: what all short signs and targets are, of each number; what it stands for then is told by what is read and written.
func TestShortRedirections(t *testing.T) {
	for _, op := range short.Texts("<>&", 3) {
		u := begin(t, "in\nput")
		for _, target := range append(short.Texts("/dx-1", 3), "0", "2", "9", "f", "d/f", "l/f", "u/g", "s", "n", "r/f") {
			for fd := -1; fd <= api.MaxFds; fd++ {
				u.does(t, u.tables[0], act{fmt.Sprint("Open", fd, op, target), func(x *Table) string { return fmt.Sprint(x.Open("/d", fd, op, target)) }, func(p *plain) string { return fmt.Sprint(p.open("/d", fd, op, target)) }})
				u.does(t, u.tables[0], act{fmt.Sprint("Write", fd, op, target), func(x *Table) string { return fmt.Sprint(x.Write(fd, "x")) }, func(p *plain) string { return fmt.Sprint(p.write(fd, "x")) }})
				u.does(t, u.tables[0], act{fmt.Sprint("Read", fd, op, target), func(x *Table) string { return fmt.Sprint(x.Read(fd)) }, func(p *plain) string { return fmt.Sprint(p.readAll(fd)) }})
			}
			u.alike(t, op+target)
		}
	}
}
