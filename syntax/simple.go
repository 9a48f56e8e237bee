package syntax

import (
	"strings"

	"rehearsal/api"
	"rehearsal/word"
)

// simple reads a command of words: one thing at least must stand next.
func (r *reader) simple() api.Cmd {
	key, _ := r.next()
	if ending(key) || !r.redirStands() && !r.wordStands() {
		r.refuse()
	}
	c := api.Cmd{Kind: api.Simple}
	for {
		switch {
		case r.redirStands():
			c.Redirs = append(c.Redirs, r.redir())
		case r.wordStands():
			put(&c, r.word())
		default:
			return c
		}
	}
}

// put puts a word behind what a command has: as an assignment, if it is one and no other word stands ahead.
func put(c *api.Cmd, w []api.Part) {
	if a, ok := assignment(w); ok && len(c.Words) == 0 {
		c.Assigns = append(c.Assigns, a)
		return
	}
	c.Words = append(c.Words, w)
}

// assignment tells the assignment that a word can be read as; it is false, if there is none.
func assignment(w []api.Part) (api.Assign, bool) {
	if w[0].Kind != api.Lit || w[0].Quoted {
		return api.Assign{}, false
	}
	name, value, ok := strings.Cut(w[0].Text, "=")
	if !ok || !word.Name(name) {
		return api.Assign{}, false
	}
	var l []api.Part
	if value != "" {
		l = append(l, api.Part{Kind: api.Lit, Text: value})
	}
	return api.Assign{Name: name, Word: append(l, w[1:]...)}, true
}

// redirStands tells whether a redirection stands next.
func (r *reader) redirStands() bool {
	_, op, _ := r.arrow()
	return op != ""
}

// redir reads a redirection, which stands next.
func (r *reader) redir() api.Redir {
	fd, op, behind := r.arrow()
	r.at = behind
	return api.Redir{Fd: fd, Op: op, Word: r.word()}
}

// arrow tells the number and the sign of the redirection that stands next, and the place behind them; the sign is empty, if none stands there.
func (r *reader) arrow() (int, string, int) {
	from := r.ahead()
	at := from
	if at < len(r.s) && word.Digit(r.s[at]) {
		at++
	}
	fd, op := 0, r.signAt(at)
	switch op {
	case "<", "<&":
	case ">", ">>", ">&":
		fd = 1
	default:
		return 0, "", 0
	}
	if at > from {
		fd = int(r.s[from] - '0')
	}
	return fd, op, at + len(op)
}
