package syntax

import "rehearsal/api"

// script reads a whole script.
func (r *reader) script() []api.List {
	r.newlines()
	if r.over() {
		return nil
	}
	l := r.lists()
	if !r.over() {
		r.refuse()
	}
	return l
}

// enter goes into a level that begins at a place.
func (r *reader) enter(at int) {
	if r.within > api.MaxDeep {
		panic(fault{at, api.ErrDeep})
	}
	r.within++
}

// leave goes out of a level.
func (r *reader) leave() {
	r.within--
}

// lists reads lists, up to what ends them.
func (r *reader) lists() []api.List {
	r.enter(r.at)
	r.newlines()
	if r.listsEnd() {
		r.refuse()
	}
	l := []api.List{r.list()}
	for r.pass(";") || r.pass("\n") {
		r.newlines()
		if r.listsEnd() {
			break
		}
		l = append(l, r.list())
	}
	r.leave()
	return l
}

// listsTo reads lists, and the sign, or the key word, that must stand behind them.
func (r *reader) listsTo(end string) []api.List {
	l := r.lists()
	r.need(end)
	return l
}

// listsEnd tells whether what stands next ends lists.
func (r *reader) listsEnd() bool {
	what, _ := r.next()
	return what == ")" || what == ";;" || ending(what) || r.over()
}

// ending tells whether a key word ends lists.
func ending(key string) bool {
	switch key {
	case "then", "else", "elif", "fi", "do", "done", "esac", "}":
		return true
	}
	return false
}

// list reads a list.
func (r *reader) list() api.List {
	l := api.List{Pipes: []api.Pipe{r.pipe()}}
	for {
		op, behind := r.next()
		if op != "&&" && op != "||" {
			return l
		}
		r.at = behind
		r.newlines()
		l.Ops = append(l.Ops, op)
		l.Pipes = append(l.Pipes, r.pipe())
	}
}

// pipe reads a pipe.
func (r *reader) pipe() api.Pipe {
	p := api.Pipe{Not: r.pass("!")}
	p.Cmds = append(p.Cmds, r.command())
	for r.pass("|") {
		r.newlines()
		p.Cmds = append(p.Cmds, r.command())
	}
	return p
}

// alone is lists of one command.
func alone(c api.Cmd) []api.List {
	return []api.List{{Pipes: []api.Pipe{{Cmds: []api.Cmd{c}}}}}
}
