package syntax

import (
	"strings"

	"rehearsal/api"
	"rehearsal/word"
)

// reader reads a script from a place on. Its methods give up by a panic with a fault.
type reader struct {
	s      string
	at     int // right behind the word or sign that was read last
	within int // the levels around that place: lists, elifs, bodies of functions
}

// ahead tells where the next word or sign stands, or the text's end.
func (r *reader) ahead() int {
	at := r.at
	for {
		switch left := r.s[at:]; {
		case strings.HasPrefix(left, " "), strings.HasPrefix(left, "\t"):
			at++
		case strings.HasPrefix(left, "\\\n"):
			at += 2
		case strings.HasPrefix(left, "#"):
			n := strings.IndexByte(left, '\n')
			if n < 0 {
				return len(r.s)
			}
			at += n
		default:
			return at
		}
	}
}

// over tells whether nothing more stands in the text.
func (r *reader) over() bool {
	return r.ahead() == len(r.s)
}

// refuse gives up, since what stands next may not, be it the text's end.
func (r *reader) refuse() {
	at := r.ahead()
	if at == len(r.s) {
		panic(fault{at, api.ErrEnd})
	}
	panic(fault{at, api.ErrSyntax})
}

// signAt tells the sign that stands at a place; it is empty, if none does.
func (r *reader) signAt(at int) string {
	if at == len(r.s) || !word.Meta(r.s[at]) {
		return ""
	}
	for _, sign := range [...]string{"&&", "||", ";;", ">>", "<&", ">&", "\n", "&", "|", ";", "<", ">", "(", ")"} {
		if strings.HasPrefix(r.s[at:], sign) {
			return sign
		}
	}
	return ""
}

// next tells the sign, or the key word, that stands next (no sign is a word), and the place behind it; it is empty, if none does. A word with a fault is no key word.
func (r *reader) next() (string, int) {
	at := r.ahead()
	if sign := r.signAt(at); sign != "" {
		return sign, at + len(sign)
	}
	w, behind, e := word.Scan(r.s, at)
	if e != api.OK || len(w) != 1 || w[0].Kind != api.Lit || w[0].Quoted {
		return "", at
	}
	return w[0].Text, behind
}

// pass passes over a sign, or a key word, if that stands next.
func (r *reader) pass(what string) bool {
	found, behind := r.next()
	if found != what {
		return false
	}
	r.at = behind
	return true
}

// need passes over a sign, or a key word, that must stand next.
func (r *reader) need(what string) {
	if !r.pass(what) {
		r.refuse()
	}
}

// newlines passes over any number of newlines.
func (r *reader) newlines() {
	for r.pass("\n") {
	}
}

// name reads a key word that is a name.
func (r *reader) name() string {
	name, behind := r.next()
	if !word.Name(name) {
		r.refuse()
	}
	r.at = behind
	return name
}

// wordStands tells whether a word stands next, be it one with a fault.
func (r *reader) wordStands() bool {
	at := r.ahead()
	return at < len(r.s) && !word.Meta(r.s[at])
}

// word reads a word, which must stand next.
func (r *reader) word() []api.Part {
	if !r.wordStands() {
		r.refuse()
	}
	from := r.ahead()
	w, at, e := word.Scan(r.s, from)
	switch {
	case e == api.ErrSyntax && at == len(r.s):
		panic(fault{at, api.ErrEnd})
	case e != api.OK:
		panic(fault{at, e})
	}
	r.scripts(w, from)
	r.at = at
	if len(w) == 0 {
		return []api.Part{{Kind: api.Lit, Quoted: true}}
	}
	return w
}

// scripts reads the scripts of the Commands in a word that stands at a place. Only their faults are asked for.
func (r *reader) scripts(w []api.Part, at int) {
	for _, p := range w {
		if p.Kind == api.Command {
			// The script itself is a level, too.
			if _, _, e := parse(p.Text, r.within+1); e != api.OK {
				panic(fault{at, e})
			}
		}
		r.scripts(p.Word, at)
	}
}
