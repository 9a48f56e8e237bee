package expand

import (
	"fmt"
	"math/rand"
	"regexp"
	"slices"
	"strings"
	"testing"

	"rehearsal/api"
	"rehearsal/arith"
	"rehearsal/match"
	"rehearsal/short"
	"rehearsal/vars"
	"rehearsal/word"
)

// The chapter's words, said once more: a word is signs, byte by byte, and fields are cut off a line of their kinds by a regular expression.

// sign is a byte that a word puts, or a mark without one: something empty that is quoted, or an end of a field.
type sign struct {
	c      string // the byte; empty of a mark
	quoted bool
	split  bool
	end    bool
}

// fault is an error that a word's expansion is given up with.
type fault struct{ e api.Errno }

// actor expands words plainly.
type actor struct {
	v *vars.Table
	h Host
}

func giveUp(e api.Errno) {
	if e != api.OK {
		panic(fault{e})
	}
}

// caught does something, and tells the error that it was given up with.
func caught(do func()) (e api.Errno) {
	defer func() {
		if x := recover(); x != nil {
			e = x.(fault).e
		}
	}()
	do()
	return api.OK
}

// signs are those of a text.
func signs(s string, quoted, split bool) []sign {
	var l []sign
	if s == "" && quoted {
		return []sign{{quoted: true}}
	}
	for i := range len(s) {
		l = append(l, sign{c: s[i : i+1], quoted: quoted, split: split})
	}
	return l
}

var tildePlainly = regexp.MustCompile(`^~(?s:(/.*))?$`)

// word is what a word puts.
func (a actor) word(w []api.Part) []sign {
	var l []sign
	home, set := a.v.Get("HOME")
	if set && len(w) > 0 && w[0].Kind == api.Lit && !w[0].Quoted && tildePlainly.MatchString(w[0].Text) && (len(w) == 1 || w[0].Text != "~") {
		l = append(l, signs(home, true, false)...)
		l = append(l, signs(w[0].Text[1:], false, false)...)
		w = w[1:]
	}
	return append(l, a.parts(w, false)...)
}

func (a actor) parts(w []api.Part, within bool) []sign {
	var l []sign
	for _, p := range w {
		switch {
		case p.Kind == api.Lit && p.Quoted:
			l = append(l, signs(p.Text, true, false)...)
		case p.Kind == api.Lit:
			l = append(l, signs(p.Text, false, within)...)
		case p.Kind == api.Param && (p.Text == "@" || p.Text == "*"):
			l = append(l, a.parameters(p)...)
		case p.Kind == api.Param:
			l = append(l, a.param(p)...)
		case p.Kind == api.Command:
			s, e := a.h.Run(p.Text)
			giveUp(e)
			for strings.HasSuffix(s, "\n") {
				s = s[:len(s)-1]
			}
			l = append(l, signs(s, p.Quoted, !p.Quoted)...)
		case p.Kind == api.Arith:
			n, after, e := arith.Eval(p.Text, a.v.Vars())
			giveUp(e)
			for _, v := range after {
				giveUp(a.v.Set(v.Name, v.Value))
			}
			l = append(l, signs(fmt.Sprint(n), p.Quoted, !p.Quoted)...)
		}
	}
	return l
}

// parameters are what @ and * put.
func (a actor) parameters(p api.Part) []sign {
	args := a.v.Args()
	empty := len(args) == 0
	if strings.HasPrefix(p.Op, ":") && len(args) == 1 && args[0] == "" {
		empty = true
	}
	switch p.Op {
	case "-", ":-", "+", ":+":
		if empty == strings.HasSuffix(p.Op, "-") {
			return a.parts(p.Word, true)
		}
		if empty {
			return nil
		}
	case "=", ":=":
		if empty {
			giveUp(api.ErrName)
		}
	case "?", ":?":
		if empty {
			giveUp(api.ErrUnset)
		}
	case "len", ":len":
		return signs(fmt.Sprint(len(args)), p.Quoted, !p.Quoted)
	case "#", "##", "%", "%%", ":#", ":##", ":%", ":%%":
		giveUp(api.ErrName)
	}
	if p.Quoted && p.Text == "*" {
		between := a.separators()
		if between != "" {
			between = between[:1]
		}
		return signs(strings.Join(args, between), true, false)
	}
	var l []sign
	for i, arg := range args {
		if i > 0 {
			l = append(l, sign{end: true})
		}
		l = append(l, signs(arg, p.Quoted, !p.Quoted)...)
	}
	return l
}

// param is what one parameter, or a variable, puts.
func (a actor) param(p api.Part) []sign {
	value, set := a.v.Get(p.Text)
	there := map[string]bool{"": set, ":": set && value != ""}
	put := signs(value, p.Quoted, !p.Quoted)
	switch p.Op {
	case "-", ":-":
		if !there[strings.TrimSuffix(p.Op, "-")] {
			return a.parts(p.Word, true)
		}
	case "+", ":+":
		if !there[strings.TrimSuffix(p.Op, "+")] {
			return nil
		}
		return a.parts(p.Word, true)
	case "?", ":?":
		if !there[strings.TrimSuffix(p.Op, "?")] {
			giveUp(api.ErrUnset)
		}
	case "=", ":=":
		if !there[strings.TrimSuffix(p.Op, "=")] {
			if !word.Name(p.Text) {
				giveUp(api.ErrName)
			}
			s := a.text(p.Word, false)
			giveUp(a.v.Set(p.Text, s))
			return signs(s, p.Quoted, !p.Quoted)
		}
	case "len", ":len":
		return signs(fmt.Sprint(len(value)), p.Quoted, !p.Quoted)
	case "#", ":#":
		return signs(match.Cut(a.text(p.Word, true), value, false, false), p.Quoted, !p.Quoted)
	case "##", ":##":
		return signs(match.Cut(a.text(p.Word, true), value, false, true), p.Quoted, !p.Quoted)
	case "%", ":%":
		return signs(match.Cut(a.text(p.Word, true), value, true, false), p.Quoted, !p.Quoted)
	case "%%", ":%%":
		return signs(match.Cut(a.text(p.Word, true), value, true, true), p.Quoted, !p.Quoted)
	}
	return put
}

// text is a word's text, or its pattern.
func (a actor) text(w []api.Part, pattern bool) string {
	s := written(a.word(w), pattern)
	if len(s) > 4096 {
		giveUp(api.ErrLimit)
	}
	return s
}

// written are signs as a text, or as a pattern.
func written(l []sign, pattern bool) string {
	s := ""
	for _, x := range l {
		switch {
		case x.end:
			s += " "
		case pattern && x.quoted:
			s += match.Quote(x.c)
		default:
			s += x.c
		}
	}
	return s
}

func (a actor) separators() string {
	if s, set := a.v.Get("IFS"); set {
		return s
	}
	return " \t\n"
}

// kinds are the kinds of signs: w a separator that is white, s another one, e an end of a field, b something of a field.
func kinds(l []sign, separators string) string {
	s := ""
	for _, x := range l {
		switch {
		case x.end:
			s += "e"
		case !x.split || !strings.Contains(separators, x.c):
			s += "b"
		case strings.Contains(" \t\n", x.c):
			s += "w"
		default:
			s += "s"
		}
	}
	return s
}

// oneField is a field with what ends it; or what stands between the last ones and the end.
var oneField = regexp.MustCompile(`^(b*)(w+s?w*|sw*|$)`)

// cutPlainly are a word's fields.
func cutPlainly(l []sign, separators string) [][]sign {
	var out [][]sign
	from := 0
	for _, k := range strings.Split(kinds(l, separators), "e") {
		at := len(k) - len(strings.TrimLeft(k, "w"))
		for at < len(k) {
			m := oneField.FindStringSubmatch(k[at:])
			out = append(out, l[from+at:from+at+len(m[1])])
			at += len(m[0])
		}
		from += len(k) + 1
	}
	return out
}

// fields are those of words.
func (a actor) fields(words [][]api.Part) []string {
	var out []string
	for _, w := range words {
		for _, f := range cutPlainly(a.word(w), a.separators()) {
			if l := a.h.Glob(written(f, true)); len(l) > 0 {
				out = append(out, l...)
			} else {
				out = append(out, written(f, false))
			}
		}
		for _, s := range out {
			if len(out) > 256 || len(s) > 4096 {
				giveUp(api.ErrLimit)
			}
		}
	}
	return out
}

// maker makes words by chance.
type maker struct{ r *rand.Rand }

func (m maker) one(l ...string) string { return l[m.r.Intn(len(l))] }

func (m maker) text() string {
	s := ""
	for range m.r.Intn(4) {
		s += m.one("a", "b", " ", ":", "*", "\\", "~", "/", "\t", "\n", "x", "?", "-", " : ", "::")
	}
	return s
}

func (m maker) part(deep int) api.Part {
	p := api.Part{Quoted: m.r.Intn(3) == 0}
	switch k := m.r.Intn(20); {
	case k < 6:
		p.Kind, p.Text = api.Lit, m.one("~", "~/", "a", m.text(), m.text(), m.text(), "")
	case k < 8:
		p.Kind, p.Text = api.Command, m.one("a", "b", "none", "fault", "ifs", "args")
	case k < 9:
		p.Kind, p.Text = api.Arith, m.one("1+2", "x=5", "y+=1", "-7", "1/0", "n=10203", "")
	case k < 19:
		p.Kind, p.Text = api.Param, m.one("x", "y", "n", "@", "@", "*", "*", "IFS", "HOME", "1", "2", "#", "?", "none", "e", "a b", "")
		p.Op = m.one("", "", "", "-", ":-", "+", ":+", "=", ":=", "len", "#", "##", "%", "%%", m.one("?", ":?", ":len", ":#", ":##", ":%", ":%%", ":", "!", "::-", "###"))
		if deep > 0 {
			p.Word = m.word(deep - 1)
		}
	default:
		p.Kind, p.Text = m.r.Intn(9), m.text()
	}
	return p
}

func (m maker) word(deep int) []api.Part {
	var w []api.Part
	for range m.r.Intn(5) {
		w = append(w, m.part(deep))
	}
	return w
}

// table is a table with some of the names.
func (m maker) table(t *testing.T) *vars.Table {
	v := table(t, nil)
	for _, name := range []string{"x", "y", "n", "IFS", "HOME", "e"} {
		switch m.r.Intn(3) {
		case 0:
			v.Set(name, m.text())
		case 1:
			v.Set(name, map[string]string{"x": " a  b:c ", "y": "7", "n": ":a: :b", "IFS": m.one(":", ": ", "", " ", "a", "/:"), "HOME": "/h *", "e": ""}[name])
		}
	}
	var args []string
	for range m.r.Intn(4) {
		args = append(args, m.text())
	}
	v.SetArgs(args)
	v.Status = m.r.Intn(300)
	return v
}

// host is a host that works on a table.
func host(v *vars.Table) *stage {
	return &stage{
		runs:   map[string]string{"a": " x: y\n\n", "b": "*", "none": "\n", "ifs": "1 2:3", "args": "a", "fault": "told"},
		faults: map[string]api.Errno{"fault": api.ErrFuel},
		globs:  map[string][]string{"*": {"f", "g h"}, "a": {""}, `\*`: {"star"}},
		act: func(asked string) {
			switch asked {
			case "run ifs":
				v.Set("IFS", ": ")
			case "run args":
				v.SetArgs([]string{"p q", "", ":"})
			case "glob g":
				v.Set("x", "seen")
			}
			v.Status = len(asked)
		},
	}
}

// sameWorld checks that two tables, and what two hosts were asked, are alike.
func sameWorld(t *testing.T, v, v2 *vars.Table, h, h2 *stage) {
	t.Helper()
	if !slices.Equal(v.Vars(), v2.Vars()) || !slices.Equal(v.Args(), v2.Args()) || v.Status != v2.Status || !slices.Equal(h.asked, h2.asked) {
		t.Fatalf("it is %q, %q, %d, %q; want %q, %q, %d, %q", v.Vars(), v.Args(), v.Status, h.asked, v2.Vars(), v2.Args(), v2.Status, h2.asked)
	}
}

// P13.1, P13.2: made words, expanded as the chapter's words say once more, with all that is set and asked for.
func TestMade(t *testing.T) {
	m := maker{rand.New(rand.NewSource(1))}
	ends := map[api.Errno]int{}
	for range 60000 {
		v := m.table(t)
		words := [][]api.Part{m.word(3), m.word(2), m.word(1)}
		v1, v2 := v.Copy(), v.Copy()
		h1, h2 := host(v1), host(v2)
		got, e := Fields(words, v1, h1)
		var want []string
		e2 := caught(func() { want = actor{v2, h2}.fields(words) })
		if e != e2 || !slices.Equal(got, want) {
			t.Fatalf("%v, %q, %q: %q, %d; want %q, %d", words, v.Vars(), v.Args(), got, e, want, e2)
		}
		sameWorld(t, v1, v2, h1, h2)
		ends[e]++
		for pattern, f := range []func([]api.Part, *vars.Table, Host) (string, api.Errno){Text, Pattern} {
			v1, v2 := v.Copy(), v.Copy()
			h1, h2 := host(v1), host(v2)
			got, e := f(words[0], v1, h1)
			want := ""
			e2 := caught(func() { want = actor{v2, h2}.text(words[0], pattern == 1) })
			if e != e2 || got != want {
				t.Fatalf("%v, %q, %q: %q, %d; want %q, %d", words[0], v.Vars(), v.Args(), got, e, want, e2)
			}
			sameWorld(t, v1, v2, h1, h2)
		}
	}
	for _, e := range []api.Errno{api.OK, api.ErrFuel, api.ErrDivide, api.ErrName, api.ErrUnset, api.ErrNumber} {
		if ends[e] < 100 {
			t.Error("seldom:", e, ends)
		}
	}
}

// P13.1: all short texts cut at blanks and colons, alone, and with something around them.
func TestShortCuts(t *testing.T) {
	for _, ifs := range []string{": ", ":", " "} {
		for _, s := range short.Texts(": a", 7) {
			v := table(t, []string{"IFS=" + ifs, "x=" + s}, s, s[:len(s)/2], s)
			for _, w := range [][]api.Part{
				{{Kind: api.Param, Text: "x"}},
				{{Kind: api.Param, Text: "x"}, {Kind: api.Lit, Quoted: true}, {Kind: api.Param, Text: "x"}},
				{{Kind: api.Param, Text: "@"}, {Kind: api.Param, Text: "x"}},
			} {
				got, e := Fields([][]api.Part{w}, v, &stage{})
				if want := (actor{v, &stage{}}).fields([][]api.Part{w}); e != api.OK || !slices.Equal(got, want) {
					t.Fatalf("%q, %q, %v: %q; want %q", ifs, s, w, got, want)
				}
			}
		}
	}
}
