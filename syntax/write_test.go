package syntax

import (
	"math/rand"
	"slices"
	"strings"
	"testing"

	"rehearsal/api"
)

// writer makes lists up, and writes them in one of the many ways that there are.
type writer struct {
	*rand.Rand
	b     strings.Builder
	plain bool // one blank, or nothing, wherever there is a choice
}

// text is a word as it is written, with its parts.
type text struct {
	s string
	w []api.Part
}

// texts are words, some of them key words elsewhere.
func texts() []text {
	return []text{
		{"a", of(lit("a"))}, {"do", of(lit("do"))}, {"}", of(lit("}"))}, {"esac", of(lit("esac"))}, {"2", of(lit("2"))},
		{"b#c", of(lit("b#c"))}, {"x=1", of(lit("x=1"))}, {"'a b'", of(quoted(lit("a b")))}, {"''", of(quoted(lit("")))}, {"\\if", of(quoted(lit("i")), lit("f"))},
		{"a\\\nb", of(lit("ab"))}, {"\"#;$x\"", of(quoted(lit("#;")), quoted(param("x")))}, {"$(a ')';b)c", of(command("a ')';b"), lit("c"))}, {"*", of(lit("*"))},
	}
}

func (w *writer) text() text {
	l := texts()
	return l[w.Intn(len(l))]
}

// pick is one of some texts.
func (w *writer) pick(l ...string) string { return l[w.Intn(len(l))] }

// between writes what may stand between words and signs.
func (w *writer) between() {
	if !w.plain {
		w.b.WriteString(w.pick("", " ", "\t", "\\\n", "  \\\n\t", " "))
	}
}

// put writes words and signs, each with a blank ahead of it, or more.
func (w *writer) put(l ...string) {
	for _, s := range l {
		w.between()
		w.b.WriteString(" " + s)
	}
}

// glue writes a sign right behind what stands ahead of it, or nearly so.
func (w *writer) glue(s string) {
	w.between()
	w.b.WriteString(s)
}

// newlines writes newlines, where they may stand.
func (w *writer) newlines() {
	if !w.plain {
		w.b.WriteString(w.pick("", "", "", "\n", " # a 'b` \\\n", "\n\t\n", " \\\n\n#\n"))
	}
}

// separate writes what stands between lists.
func (w *writer) separate() {
	if w.plain {
		w.put(";")
		return
	}
	w.b.WriteString(w.pick(";", " ;", "\n", " #;\n", "\n \n"))
	w.newlines()
}

// lists makes lists up, and writes them, and at their end a separator, perhaps: ahead of a key word one must stand there.
func (w *writer) lists(deep int, must bool) []api.List {
	var l []api.List
	w.newlines()
	for n := 1 + w.Intn(3); n > 0; n-- {
		if len(l) > 0 {
			w.separate()
			w.newlines()
		}
		l = append(l, w.list(deep))
	}
	if must || w.Intn(2) == 0 {
		w.separate()
	}
	return l
}

func (w *writer) list(deep int) api.List {
	l := api.List{Pipes: []api.Pipe{w.pipe(deep)}}
	for w.Intn(4) == 0 {
		op := w.pick("&&", "||")
		w.put(op)
		w.newlines()
		l.Ops = append(l.Ops, op)
		l.Pipes = append(l.Pipes, w.pipe(deep))
	}
	return l
}

func (w *writer) pipe(deep int) api.Pipe {
	var p api.Pipe
	if w.Intn(4) == 0 {
		p.Not = true
		w.put("!")
	}
	p.Cmds = append(p.Cmds, w.cmd(deep))
	for w.Intn(5) == 0 {
		w.glue("|")
		w.newlines()
		p.Cmds = append(p.Cmds, w.cmd(deep))
	}
	return p
}

func (w *writer) cmd(deep int) api.Cmd {
	if deep == 0 || w.Intn(2) == 0 {
		return w.simple()
	}
	if w.Intn(6) == 0 {
		name := w.pick("f", "in", "_1")
		w.put(name)
		w.b.WriteString("(")
		w.glue(")")
		w.newlines()
		return function(name, w.compound(deep-1))
	}
	return w.compound(deep - 1)
}

func (w *writer) simple() api.Cmd {
	c := api.Cmd{Kind: api.Simple}
	redirs := func() {
		for w.Intn(4) == 0 {
			c.Redirs = append(c.Redirs, w.redir())
		}
	}
	redirs()
	for w.Intn(3) == 0 {
		x, name := w.text(), w.pick("x", "if", "_Y2")
		w.put(name + "=" + x.s)
		c.Assigns = append(c.Assigns, assign(name, x.w...))
		redirs()
	}
	x := text{"a", of(lit("a"))}
	for n := 1 + w.Intn(3); n > 0; n-- {
		w.put(x.s)
		c.Words = append(c.Words, x.w)
		redirs()
		x = w.text()
	}
	return c
}

func (w *writer) redir() api.Redir {
	x, op := w.text(), w.pick("<", ">", ">>", "<&", ">&")
	r := api.Redir{Fd: w.Intn(11), Op: op, Word: x.w}
	switch {
	case r.Fd < 10:
		w.put(string(rune('0'+r.Fd)) + op)
	case op[0] == '<':
		r.Fd = 0
		w.put(op)
	default:
		r.Fd = 1
		w.put(op)
	}
	w.glue(x.s)
	return r
}

func (w *writer) compound(deep int) api.Cmd {
	var c api.Cmd
	switch kind := api.Group + w.Intn(7); kind {
	case api.Sub:
		w.put("(")
		c = api.Cmd{Kind: kind, Body: w.lists(deep, false)}
		w.glue(")")
	case api.Group:
		w.put("{")
		c = api.Cmd{Kind: kind, Body: w.lists(deep, true)}
		w.put("}")
	case api.If:
		w.put("if")
		c = w.choice(deep)
		w.put("fi")
	case api.While, api.Until:
		w.put(map[int]string{api.While: "while", api.Until: "until"}[kind])
		c = api.Cmd{Kind: kind, Cond: w.lists(deep, true)}
		c.Body = w.done(deep)
	case api.For:
		c = w.forIn()
		c.Body = w.done(deep)
	case api.CaseOf:
		c = w.caseOf(deep)
	}
	for w.Intn(4) == 0 {
		c.Redirs = append(c.Redirs, w.redir())
	}
	return c
}

// done writes what is done in a loop.
func (w *writer) done(deep int) []api.List {
	w.put("do")
	l := w.lists(deep, true)
	w.put("done")
	return l
}

// choice writes what stands behind an if, but for the fi.
func (w *writer) choice(deep int) api.Cmd {
	c := api.Cmd{Kind: api.If, Cond: w.lists(deep, true)}
	w.put("then")
	c.Body = w.lists(deep, true)
	switch w.Intn(4) {
	case 0:
		w.put("else")
		c.Other = w.lists(deep, true)
	case 1:
		if deep > 0 {
			w.put("elif")
			c.Other = each(w.choice(deep - 1))
		}
	}
	return c
}

func (w *writer) forIn() api.Cmd {
	c := api.Cmd{Kind: api.For, Name: w.pick("x", "in", "do", "_1")}
	w.put("for", c.Name)
	w.newlines()
	if w.Intn(3) == 0 {
		c.Words = [][]api.Part{of(quoted(param("@")))}
		if w.Intn(2) == 0 {
			w.glue(";")
		}
		w.newlines()
		return c
	}
	w.put("in")
	for w.Intn(3) > 0 {
		x := w.text()
		w.put(x.s)
		c.Words = append(c.Words, x.w)
	}
	w.separate()
	return c
}

func (w *writer) caseOf(deep int) api.Cmd {
	x := w.text()
	c := api.Cmd{Kind: api.CaseOf, Words: [][]api.Part{x.w}}
	w.put("case", x.s)
	w.newlines()
	w.put("in")
	w.newlines()
	for n := w.Intn(3); n > 0; n-- {
		b := w.patterns()
		w.newlines()
		last := n == 1 && w.Intn(2) == 0
		if w.Intn(3) > 0 {
			b.Body = w.lists(deep, last)
		}
		c.Cases = append(c.Cases, b)
		if !last {
			w.put(";;")
			w.newlines()
		}
	}
	w.put("esac")
	return c
}

func (w *writer) patterns() api.Case {
	var b api.Case
	x := w.text()
	if x.s == "esac" || w.Intn(2) == 0 {
		w.put("(")
	}
	w.put(x.s)
	b.Patterns = append(b.Patterns, x.w)
	for w.Intn(3) == 0 {
		x := w.text()
		w.glue("|")
		w.put(x.s)
		b.Patterns = append(b.Patterns, x.w)
	}
	w.glue(")")
	return b
}

// script makes lists up that nest so deep, and writes them.
func script(seed int64, deep int, plain bool) (string, []api.List) {
	w := &writer{Rand: rand.New(rand.NewSource(seed)), plain: plain}
	l := w.lists(deep, false)
	return w.b.String(), l
}

// P8.1: what is written is parsed. P8.2: remarks, blanks and newlines where they may stand change nothing.
func TestParseWritten(t *testing.T) {
	for seed := range int64(3000) {
		s, l := script(seed, int(seed%4), seed%5 == 0)
		if len(s) > api.MaxText {
			continue
		}
		checkReadings(t, []reading{{s, l}})
		if t.Failed() {
			return
		}
	}
}

// P8.2: two scripts with a newline between are the lists of both.
func TestParseBoth(t *testing.T) {
	ends := []string{"", "\n", "# a", "a # 'b", "a;", "a \\\n", "(a)", "a\\\n", "$(b)", "x=", "if a; then b; fi", "''"}
	for seed := range int64(60) {
		s, _ := script(seed, 2, seed%5 == 0)
		ends = append(ends, s)
	}
	parse := func(s string) []api.List {
		l, at, e := Parse(s)
		if e != api.OK {
			t.Fatalf("Parse(%q): %d, %d", s, at, e)
		}
		return l
	}
	for i, a := range ends {
		for _, b := range ends[:30] {
			if len(a)+1+len(b) > api.MaxText {
				continue
			}
			got, want := parse(a+"\n"+b), slices.Concat(parse(a), parse(b))
			if show(got) != show(want) {
				t.Fatalf("%d: Parse(%q) = %+v; want %+v", i, a+"\n"+b, got, want)
			}
		}
	}
}
