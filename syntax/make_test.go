package syntax

import (
	"fmt"
	"strings"

	"rehearsal/api"
)

// The makers of words, commands and lists that tests hold against what is read.
func lit(s string) api.Part         { return api.Part{Kind: api.Lit, Text: s} }
func param(s string) api.Part       { return api.Part{Kind: api.Param, Text: s} }
func command(s string) api.Part     { return api.Part{Kind: api.Command, Text: s} }
func of(w ...api.Part) []api.Part   { return w }
func pipe(c ...api.Cmd) api.Pipe    { return api.Pipe{Cmds: c} }
func group(body ...api.Cmd) api.Cmd { return api.Cmd{Kind: api.Group, Body: each(body...)} }
func sub(body ...api.Cmd) api.Cmd   { return api.Cmd{Kind: api.Sub, Body: each(body...)} }

func quoted(p api.Part) api.Part {
	p.Quoted = true
	return p
}

// plain are words of one text each.
func plain(texts ...string) [][]api.Part {
	var l [][]api.Part
	for _, s := range texts {
		l = append(l, of(lit(s)))
	}
	return l
}

// simple is a command of plain words.
func simple(texts ...string) api.Cmd { return words(plain(texts...)...) }

// words is a command of words.
func words(l ...[]api.Part) api.Cmd { return api.Cmd{Kind: api.Simple, Words: l} }

func choice(cond, body api.Cmd, other ...api.Cmd) api.Cmd {
	return api.Cmd{Kind: api.If, Cond: each(cond), Body: each(body), Other: each(other...)}
}

func loop(kind int, cond, body api.Cmd) api.Cmd {
	return api.Cmd{Kind: kind, Cond: each(cond), Body: each(body)}
}

func forIn(name string, l [][]api.Part, body ...api.Cmd) api.Cmd {
	return api.Cmd{Kind: api.For, Name: name, Words: l, Body: each(body...)}
}

func caseOf(w []api.Part, l ...api.Case) api.Cmd {
	return api.Cmd{Kind: api.CaseOf, Words: [][]api.Part{w}, Cases: l}
}

func branch(patterns [][]api.Part, body ...api.Cmd) api.Case {
	return api.Case{Patterns: patterns, Body: each(body...)}
}

func function(name string, body api.Cmd) api.Cmd {
	return api.Cmd{Kind: api.Function, Name: name, Body: each(body)}
}

func assign(name string, w ...api.Part) api.Assign { return api.Assign{Name: name, Word: w} }

func redir(fd int, op string, w ...api.Part) api.Redir { return api.Redir{Fd: fd, Op: op, Word: w} }

// with is a command behind assignments.
func with(c api.Cmd, l ...api.Assign) api.Cmd {
	c.Assigns = l
	return c
}

// to is a command with redirections.
func to(c api.Cmd, l ...api.Redir) api.Cmd {
	c.Redirs = l
	return c
}

func not(p api.Pipe) api.Pipe {
	p.Not = true
	return p
}

// list is pipes with ops between.
func list(ops string, l ...api.Pipe) api.List { return api.List{Pipes: l, Ops: strings.Fields(ops)} }

// each is lists of one command each.
func each(l ...api.Cmd) []api.List {
	var all []api.List
	for _, c := range l {
		all = append(all, list("", pipe(c)))
	}
	return all
}

// show tells all that lists are; nil and empty ones are alike.
func show(l []api.List) string { return strings.ReplaceAll(fmt.Sprintf("%#v", l), "(nil)", "{}") }
