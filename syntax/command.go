package syntax

import (
	"strings"

	"rehearsal/api"
	"rehearsal/word"
)

// command reads a command.
func (r *reader) command() api.Cmd {
	if c, ok := r.compound(); ok {
		return c
	}
	if name, behind := r.next(); word.Name(name) && strings.HasPrefix(r.s[behind:], "(") {
		return r.function()
	}
	return r.simple()
}

// compound reads a command that a sign or a key word begins, with its redirections; it is false, if none stands next.
func (r *reader) compound() (api.Cmd, bool) {
	from := r.at
	var begin string
	begin, r.at = r.next()
	var c api.Cmd
	switch begin {
	case "(":
		c = api.Cmd{Kind: api.Sub, Body: r.listsTo(")")}
	case "{":
		c = api.Cmd{Kind: api.Group, Body: r.listsTo("}")}
	case "if":
		c = r.choice()
	case "while":
		c = r.loop(api.While)
	case "until":
		c = r.loop(api.Until)
	case "for":
		c = r.each()
	case "case":
		c = r.caseOf()
	default:
		r.at = from
		return c, false
	}
	for r.redirStands() {
		c.Redirs = append(c.Redirs, r.redir())
	}
	return c, true
}

// choice reads what stands behind an if, or an elif, the fi too.
func (r *reader) choice() api.Cmd {
	c := api.Cmd{Kind: api.If}
	c.Cond = r.listsTo("then")
	c.Body = r.lists()
	switch {
	case r.pass("else"):
		c.Other = r.listsTo("fi")
	case r.pass("elif"):
		r.enter(r.at)
		c.Other = alone(r.choice())
		r.leave()
	default:
		r.need("fi")
	}
	return c
}

// loop reads what stands behind a while, or an until.
func (r *reader) loop(kind int) api.Cmd {
	c := api.Cmd{Kind: kind}
	c.Cond = r.listsTo("do")
	c.Body = r.listsTo("done")
	return c
}

// each reads what stands behind a for.
func (r *reader) each() api.Cmd {
	c := api.Cmd{Kind: api.For, Name: r.name()}
	r.newlines()
	if r.pass("in") {
		// A do among them is a word, too: so it is behind a ; or a newline alone that one may stand.
		for r.wordStands() {
			c.Words = append(c.Words, r.word())
		}
	} else {
		c.Words = [][]api.Part{{{Kind: api.Param, Quoted: true, Text: "@"}}}
	}
	r.pass(";")
	r.newlines()
	r.need("do")
	c.Body = r.listsTo("done")
	return c
}

// caseOf reads what stands behind a case.
func (r *reader) caseOf() api.Cmd {
	c := api.Cmd{Kind: api.CaseOf, Words: [][]api.Part{r.word()}}
	r.newlines()
	r.need("in")
	r.newlines()
	for !r.pass("esac") {
		c.Cases = append(c.Cases, r.branch())
		if !r.pass(";;") {
			r.need("esac")
			break
		}
		r.newlines()
	}
	return c
}

// branch reads a branch of a case, up to what ends it.
func (r *reader) branch() api.Case {
	r.pass("(")
	b := api.Case{Patterns: [][]api.Part{r.word()}}
	for r.pass("|") {
		b.Patterns = append(b.Patterns, r.word())
	}
	r.need(")")
	r.newlines()
	if !r.listsEnd() {
		b.Body = r.lists()
	}
	return b
}

// function reads a function, which stands next.
func (r *reader) function() api.Cmd {
	c := api.Cmd{Kind: api.Function, Name: r.name()}
	r.need("(")
	r.need(")")
	r.newlines()
	r.enter(r.ahead())
	body, ok := r.compound()
	if !ok {
		r.refuse()
	}
	r.leave()
	c.Body = alone(body)
	return c
}
