package print

import (
	"bytes"

	"rehearsal/api"
	"rehearsal/num"
	"rehearsal/word"
)

// writer writes lists. Each of its calls answers false, and all of them leave off then, where what is written can't be a script: what is handed in may be nested far deeper, and come to far more bytes, than any script.
type writer struct {
	out []byte
}

// text writes texts, one behind the other.
func (w *writer) text(l ...string) bool {
	for _, s := range l {
		if len(w.out)+len(s) > api.MaxText {
			return false
		}
		w.out = append(w.out, s...)
	}
	return true
}

// between makes what writes a sign each time but the first, so that the sign stands between what is written.
func (w *writer) between(sign string) func() bool {
	first := true
	return func() bool {
		if first {
			first = false
			return true
		}
		return w.text(sign)
	}
}

// word writes a word.
func (w *writer) word(l []api.Part) bool {
	s, e := word.Print(l)
	return e == api.OK && w.text(s)
}

// words writes words, each behind what stands between.
func (w *writer) words(l [][]api.Part, between func() bool) bool {
	for _, x := range l {
		if !between() || !w.word(x) {
			return false
		}
	}
	return true
}

// lists writes lists, each on a line of its own.
func (w *writer) lists(l []api.List) bool {
	for _, x := range l {
		if !w.list(x) || !w.text("\n") {
			return false
		}
	}
	return true
}

// list writes a list.
func (w *writer) list(l api.List) bool {
	if len(l.Pipes) != len(l.Ops)+1 {
		return false
	}
	for i, p := range l.Pipes {
		if i > 0 && !w.text(" ", l.Ops[i-1], " ") {
			return false
		}
		if !w.pipe(p) {
			return false
		}
	}
	return true
}

// pipe writes a pipe.
func (w *writer) pipe(p api.Pipe) bool {
	if p.Not && !w.text("! ") {
		return false
	}
	between := w.between(" | ")
	for _, c := range p.Cmds {
		if !between() || !w.command(c) {
			return false
		}
	}
	return true
}

// command writes a command.
func (w *writer) command(c api.Cmd) bool {
	if c.Kind == api.Simple {
		return w.simple(c)
	}
	if !w.compound(c) {
		return false
	}
	for _, r := range c.Redirs {
		if !w.text(" ") || !w.redir(r) {
			return false
		}
	}
	return true
}

// simple writes a Simple command.
func (w *writer) simple(c api.Cmd) bool {
	between := w.between(" ")
	for _, r := range c.Redirs {
		if !between() || !w.redir(r) {
			return false
		}
	}
	for _, a := range c.Assigns {
		if !between() || !w.text(a.Name, "=") || !w.word(a.Word) {
			return false
		}
	}
	return w.words(c.Words, between)
}

// redir writes a redirection.
func (w *writer) redir(r api.Redir) bool {
	return w.text(num.Text(r.Fd), r.Op) && w.word(r.Word)
}

// compound writes a command that is not Simple, but for its redirections.
func (w *writer) compound(c api.Cmd) bool {
	switch c.Kind {
	case api.Group:
		return w.text("{\n") && w.lists(c.Body) && w.text("}")
	case api.Sub:
		return w.text("(\n") && w.lists(c.Body) && w.text(")")
	case api.If:
		return w.choice(c)
	case api.While:
		return w.text("while\n") && w.lists(c.Cond) && w.loop(c.Body)
	case api.Until:
		return w.text("until\n") && w.lists(c.Cond) && w.loop(c.Body)
	case api.For:
		return w.text("for ", c.Name, " in") && w.words(c.Words, w.blank) && w.text("\n") && w.loop(c.Body)
	case api.CaseOf:
		return w.caseOf(c)
	case api.Function:
		return w.text(c.Name, "() ") && w.lists(c.Body) && w.noNewline()
	}
	return false
}

// blank writes a blank.
func (w *writer) blank() bool {
	return w.text(" ")
}

// noNewline takes the newlines off the end.
func (w *writer) noNewline() bool {
	w.out = bytes.TrimRight(w.out, "\n")
	return true
}

// choice writes an If.
func (w *writer) choice(c api.Cmd) bool {
	if !w.text("if\n") || !w.lists(c.Cond) || !w.text("then\n") || !w.lists(c.Body) {
		return false
	}
	if len(c.Other) > 0 && !(w.text("else\n") && w.lists(c.Other)) {
		return false
	}
	return w.text("fi")
}

// loop writes what is done in a loop.
func (w *writer) loop(body []api.List) bool {
	return w.text("do\n") && w.lists(body) && w.text("done")
}

// caseOf writes a CaseOf.
func (w *writer) caseOf(c api.Cmd) bool {
	if !w.text("case ") || !w.words(c.Words, w.between(" ")) || !w.text(" in\n") {
		return false
	}
	for _, b := range c.Cases {
		if !w.text("(") || !w.words(b.Patterns, w.between("|")) || !w.text(")\n") || !w.lists(b.Body) || !w.text(";;\n") {
			return false
		}
	}
	return w.text("esac")
}
