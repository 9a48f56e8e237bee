package print

import (
	"strings"
	"testing"

	"rehearsal/api"
)

// nested are groups within one another.
func nested(deep int) []api.List {
	l := of(simple("a"))
	for range deep {
		l = of(api.Cmd{Kind: api.Group, Body: l})
	}
	return l
}

// P9.2, P9.3: a script has at most MaxText bytes.
func TestPrintLong(t *testing.T) {
	word := func(n int) []api.List { return of(simple(strings.Repeat("a", n))) }
	body := func(n int) []api.List {
		return of(api.Cmd{Kind: api.Function, Name: "f", Body: of(api.Cmd{Kind: api.Sub, Body: word(n)})})
	}
	many := func(n int) []api.List {
		var l []api.List
		for range n {
			l = append(l, of(simple("a"))...)
		}
		return l
	}
	for _, c := range []struct {
		l    []api.List
		size int
	}{
		{word(api.MaxText - 1), api.MaxText}, {word(api.MaxText), 0}, {word(1 << 24), 0},
		{body(api.MaxText - 9), api.MaxText}, {body(api.MaxText - 8), 0},
		{many(api.MaxText / 2), api.MaxText}, {many(api.MaxText/2 + 1), 0}, {many(1 << 20), 0},
		{of(to(simple("a"), api.Redir{Fd: 1, Op: strings.Repeat(">", 1<<24), Word: lit("f")})), 0},
		{[]api.List{{Pipes: make([]api.Pipe, 1<<20), Ops: make([]string, 1<<20-1)}}, 0},
		{[]api.List{{Pipes: []api.Pipe{{Cmds: make([]api.Cmd, 1<<20)}}}}, 0},
		{of(api.Cmd{Kind: api.Simple, Words: make([][]api.Part, 1<<20)}), 0},
		{make([]api.List, 1<<20), 0},
	} {
		s, e := Print(c.l)
		if len(s) != c.size || (e == api.OK) != (c.size > 0) || e != api.OK && e != api.ErrArg {
			t.Errorf("%d bytes, %d; want %d", len(s), e, c.size)
		}
		if e == api.OK && !Same(parse(t, s), c.l) {
			t.Error("parsed as another one")
		}
	}
	// What is shorter than what is printed of it may be too long then.
	if s, e := Print(parse(t, strings.Repeat("a|", api.MaxText/2-1)+"a")); s != "" || e != api.ErrArg {
		t.Errorf("%d bytes, %d", len(s), e)
	}
}

// P9.2: MaxDeep levels may be printed, no more; what is nested far deeper ends, too.
func TestPrintDeep(t *testing.T) {
	for deep := range 40 {
		s, e := Print(nested(deep))
		want := strings.Repeat("{\n", deep) + "a\n" + strings.Repeat("}\n", deep)
		if deep > api.MaxDeep {
			want = ""
		}
		if s != want || (e == api.OK) != (want != "") {
			t.Errorf("%d: %q, %d", deep, s, e)
		}
	}
	elif := "if a; then b; "
	for range api.MaxDeep - 1 {
		elif += "elif a; then b; "
	}
	if s, e := Print(parse(t, elif+"fi")); e != api.OK || !Same(parse(t, s), parse(t, elif+"fi")) {
		t.Errorf("%q, %d", s, e)
	}
	if s, e := Print(nested(1 << 16)); s != "" || e != api.ErrArg {
		t.Errorf("%d bytes, %d", len(s), e)
	}
	word := lit("a")
	for range 1 << 16 {
		word = []api.Part{{Kind: api.Param, Text: "x", Op: "-", Word: word}}
	}
	if s, e := Print(of(api.Cmd{Kind: api.Simple, Words: [][]api.Part{word}})); s != "" || e != api.ErrArg {
		t.Errorf("%d bytes, %d", len(s), e)
	}
}

// P9.1: what is nested far deeper than a script can be is told apart, too.
func TestSameDeep(t *testing.T) {
	a, b, c := nested(1<<16), nested(1<<16), nested(1<<16-1)
	if !Same(a, b) || Same(a, c) || Same(c, b) {
		t.Error("Same of what is nested deep")
	}
}
