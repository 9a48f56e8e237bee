package print

import (
	"math/rand"
	"strconv"
	"strings"
	"testing"

	"rehearsal/api"
	"rehearsal/short"
	"rehearsal/syntax"
)

// The words of P9.2, said once more: each thing is the texts of what it is made of.
func listsText(l []api.List) string {
	s := ""
	for _, x := range l {
		for i, p := range x.Pipes {
			if i > 0 && i <= len(x.Ops) {
				s += " " + x.Ops[i-1] + " "
			}
			s += pipeText(p)
		}
		s += "\n"
	}
	return s
}

func pipeText(p api.Pipe) string {
	var l []string
	for _, c := range p.Cmds {
		l = append(l, cmdText(c))
	}
	return map[bool]string{true: "! "}[p.Not] + strings.Join(l, " | ")
}

func cmdText(c api.Cmd) string {
	var redirs []string
	for _, r := range c.Redirs {
		redirs = append(redirs, strconv.Itoa(r.Fd)+r.Op+wordText(r.Word))
	}
	if c.Kind == api.Simple {
		for _, a := range c.Assigns {
			redirs = append(redirs, a.Name+"="+wordText(a.Word))
		}
		return strings.Join(append(redirs, wordTexts(c.Words)...), " ")
	}
	cond, body := listsText(c.Cond), listsText(c.Body)
	s := map[int]string{
		api.Group:    "{\n" + body + "}",
		api.Sub:      "(\n" + body + ")",
		api.If:       "if\n" + cond + "then\n" + body + "fi",
		api.While:    "while\n" + cond + "do\n" + body + "done",
		api.Until:    "until\n" + cond + "do\n" + body + "done",
		api.For:      strings.Join(append([]string{"for", c.Name, "in"}, wordTexts(c.Words)...), " ") + "\ndo\n" + body + "done",
		api.CaseOf:   "case " + strings.Join(wordTexts(c.Words), " ") + " in\n" + casesText(c.Cases) + "esac",
		api.Function: c.Name + "() " + strings.TrimRight(body, "\n"),
	}[c.Kind]
	if c.Kind == api.If && len(c.Other) > 0 {
		s = strings.TrimSuffix(s, "fi") + "else\n" + listsText(c.Other) + "fi"
	}
	return strings.Join(append([]string{s}, redirs...), " ")
}

func casesText(l []api.Case) string {
	s := ""
	for _, b := range l {
		s += "(" + strings.Join(wordTexts(b.Patterns), "|") + ")\n" + listsText(b.Body) + ";;\n"
	}
	return s
}

func wordTexts(l [][]api.Part) []string {
	var all []string
	for _, w := range l {
		all = append(all, wordText(w))
	}
	return all
}

// wordText is a word of texts and parameters (chapter 7).
func wordText(w []api.Part) string {
	s := ""
	for _, p := range w {
		x := "${" + p.Text + p.Op + wordText(p.Word) + "}"
		if p.Op == "len" {
			x = "${#" + p.Text + "}"
		}
		switch {
		case p.Kind == api.Lit && p.Quoted:
			x = "'" + strings.ReplaceAll(p.Text, "'", `'\''`) + "'"
		case p.Kind == api.Lit:
			x = p.Text
		case p.Quoted:
			x = `"` + x + `"`
		}
		s += x
	}
	return s
}

// checkModel holds what is printed of lists against the words above: that, if it is parsed as them.
func checkModel(t *testing.T, l []api.List) bool {
	t.Helper()
	want, wantE := listsText(l), api.OK
	if read, _, e := syntax.Parse(want); e != api.OK || show(read) != show(l) {
		want, wantE = "", api.ErrArg
	}
	got, e := Print(l)
	if got != want || e != wantE {
		t.Fatalf("Print(%s) = %q, %d; want %q, %d", show(l), got, e, want, wantE)
	}
	return e == api.OK
}

// maker makes lists up: such as scripts come to, but for a part in odd that is made to be something else.
type maker struct {
	*rand.Rand
	odd int
}

// strange tells whether something else is to be made.
func (m maker) strange() bool { return m.odd > 0 && m.Intn(m.odd) == 0 }

func (m maker) pick(l ...string) string { return l[m.Intn(len(l))] }

func (m maker) name() string {
	if m.strange() {
		return m.pick("", "1", "if", "fi", "a b", "x=", strings.Repeat("n", 65), "f()", "#")
	}
	return m.pick("x", "_1", "in", "Y2")
}

func (m maker) word() []api.Part {
	if m.strange() {
		return [][]api.Part{nil, lit(""), lit("a b"), lit("#"), lit("\\"), lit("'"), lit("fi"), lit("if"), lit("x=1"), lit(")"), lit("\n"), lit("a`"), {{Kind: api.Param, Text: "x", Op: "??"}}, append(lit("a"), lit("b")...), {{}}}[m.Intn(15)]
	}
	one := []api.Part{
		{Kind: api.Lit, Text: m.pick("a", "b#c", "*", "{", "2", "~", "d\x00\xff")}, {Kind: api.Lit, Quoted: true, Text: m.pick("", "a b", "'", "\n", "\\", "if")},
		{Kind: api.Param, Text: m.pick("x", "@", "10")}, {Kind: api.Param, Quoted: true, Text: m.pick("x", "#", "?")}, {Kind: api.Param, Text: "x", Op: m.pick("#", ":-", "%%"), Word: []api.Part{{Kind: api.Lit, Text: "a b"}}}, {Kind: api.Param, Text: "y", Op: "len"},
	}
	w := one[m.Intn(len(one)):][:1]
	if next := one[m.Intn(len(one))]; m.Intn(3) == 0 && (next.Kind != api.Lit || next.Kind != w[0].Kind || next.Quoted != w[0].Quoted) {
		w = append(w[:1:1], next)
	}
	return w
}

func (m maker) words(least int) [][]api.Part {
	var l [][]api.Part
	for n := least + m.Intn(3); n > 0; n-- {
		l = append(l, m.word())
	}
	return l
}

func (m maker) redirs() []api.Redir {
	var l []api.Redir
	for m.Intn(4) == 0 {
		r := api.Redir{Fd: m.Intn(10), Op: m.pick("<", ">", ">>", "<&", ">&"), Word: m.word()}
		if m.strange() {
			r.Fd, r.Op = m.Intn(30)-10, m.pick(">", "", "<>", "|")
		}
		l = append(l, r)
	}
	return l
}

func (m maker) lists(deep int) []api.List {
	var l []api.List
	if m.strange() {
		return []api.List{{}}
	}
	for n := 1 + m.Intn(2); n > 0; n-- {
		x := api.List{Pipes: []api.Pipe{m.pipe(deep)}}
		for m.Intn(4) == 0 {
			x.Ops, x.Pipes = append(x.Ops, m.pick("&&", "||")), append(x.Pipes, m.pipe(deep))
		}
		if m.strange() {
			x.Ops = append(x.Ops, m.pick("&&", "||", ";"))
		}
		l = append(l, x)
	}
	return l
}

func (m maker) pipe(deep int) api.Pipe {
	p := api.Pipe{Not: m.Intn(4) == 0, Cmds: []api.Cmd{m.cmd(deep)}}
	for m.Intn(4) == 0 {
		p.Cmds = append(p.Cmds, m.cmd(deep))
	}
	if m.strange() {
		p.Cmds = nil
	}
	return p
}

func (m maker) cmd(deep int) api.Cmd {
	var c api.Cmd
	switch {
	case deep == 0 || m.Intn(2) == 0:
		c = api.Cmd{Kind: api.Simple, Words: m.words(1), Redirs: m.redirs()}
		for m.Intn(4) == 0 {
			c.Assigns = append(c.Assigns, api.Assign{Name: m.name(), Word: m.word()})
		}
	case m.Intn(6) == 0:
		c = api.Cmd{Kind: api.Function, Name: m.name(), Body: of(m.compound(deep - 1))}
	default:
		c = m.compound(deep - 1)
	}
	if m.strange() {
		c.Kind = m.Intn(12) - 1
	}
	if m.strange() {
		c.Other, c.Words = m.lists(0), m.words(0)
	}
	return c
}

func (m maker) compound(deep int) api.Cmd {
	c := api.Cmd{Kind: api.Group + m.Intn(7), Redirs: m.redirs()}
	switch c.Kind {
	case api.If, api.While, api.Until:
		c.Cond = m.lists(deep)
	case api.For:
		c.Name, c.Words = m.name(), m.words(0)
	case api.CaseOf:
		c.Words = [][]api.Part{m.word()}
		for m.Intn(2) == 0 {
			b := api.Case{Patterns: m.words(1)}
			if m.Intn(3) > 0 {
				b.Body = m.lists(deep)
			}
			c.Cases = append(c.Cases, b)
		}
		return c
	}
	c.Body = m.lists(deep)
	if c.Kind == api.If && m.Intn(2) == 0 {
		c.Other = m.lists(deep)
	}
	return c
}

// P9.2, P9.3: lists of all kinds are printed as the chapter says, or ErrArg is told.
func TestPrintModel(t *testing.T) {
	fine := 0
	for seed := range int64(6000) {
		m := maker{rand.New(rand.NewSource(seed)), []int{0, 30, 100}[seed%3]}
		if checkModel(t, m.lists(int(seed%4))) {
			fine++
		}
	}
	if fine < 2000 || fine > 5000 {
		t.Error(fine)
	}
}

// P9.3: what is parsed of all short scripts is printed, and parsed as it was.
func TestPrintParsed(t *testing.T) {
	check := func(s string) bool {
		l, _, e := syntax.Parse(s)
		if e == api.OK && !checkModel(t, l) {
			t.Fatalf("Print of %q", s)
		}
		return e == api.OK
	}
	n := 0
	for _, s := range short.Texts("a=(){};|&<>2!#'\"\\\n ", 4) {
		if check(s) {
			n++
		}
	}
	tokens := []string{"a", "x=1", "if", "then", "else", "fi", "while", "do", "done", "for", "in", "case", "esac", ";;", "(", ")", "{", "}", "!", "|", "&&", ";", "\n", ">f"}
	for _, s := range short.Texts("abcdefghijklmnopqrstuvwx", 4) {
		var l []string
		for i := range len(s) {
			l = append(l, tokens[s[i]-'a'])
		}
		x := strings.Join(l, " ")
		if check(x) {
			n++
		}
		if len(s) > 3 {
			continue
		}
		for _, in := range []string{"{ a; ? }", "if a; then ? fi", "for ? do a; done", "case a in (b) ? esac", "f() ? | b"} {
			if check(strings.Replace(in, "?", x, 1)) {
				n++
			}
		}
	}
	if n < 40000 {
		t.Error(n)
	}
}
