package expand

import (
	"strings"

	"rehearsal/api"
	"rehearsal/arith"
	"rehearsal/match"
	"rehearsal/num"
	"rehearsal/vars"
	"rehearsal/word"
)

// piece is a text that a word puts, or an end of a field.
type piece struct {
	text   string
	quoted bool
	split  bool
	end    bool
}

// expansion is a word being expanded, with what it put so far.
type expansion struct {
	table *vars.Table
	host  Host
	put   []piece
}

// expanded tells what a word puts.
func expanded(w []api.Part, t *vars.Table, h Host) ([]piece, api.Errno) {
	x := expansion{table: t, host: h}
	if e := x.parts(x.home(w), false); e != api.OK {
		return nil, e
	}
	return x.put, api.OK
}

// home puts HOME's value for a ~ that a word begins with, and tells the parts that are left.
func (x *expansion) home(w []api.Part) []api.Part {
	if len(w) == 0 || w[0].Kind != api.Lit || w[0].Quoted {
		return w
	}
	behind, tilde := strings.CutPrefix(w[0].Text, "~")
	alone := behind == "" && len(w) == 1
	if !tilde || !alone && !strings.HasPrefix(behind, "/") {
		return w
	}
	value, set := x.table.Get("HOME")
	if !set {
		return w
	}
	x.put = append(x.put, piece{text: value, quoted: true}, piece{text: behind})
	return w[1:]
}

// parts expands parts, one by one; inner ones stand in the Word of a Param.
func (x *expansion) parts(w []api.Part, inner bool) api.Errno {
	for _, p := range w {
		if e := x.part(p, inner); e != api.OK {
			return e
		}
	}
	return api.OK
}

// part expands a part.
func (x *expansion) part(p api.Part, inner bool) api.Errno {
	switch p.Kind {
	case api.Lit:
		x.put = append(x.put, piece{text: p.Text, quoted: p.Quoted, split: inner && !p.Quoted})
	case api.Param:
		return x.param(p)
	case api.Command:
		s, e := x.host.Run(p.Text)
		if e != api.OK {
			return e
		}
		x.lay(p, strings.TrimRight(s, "\n"))
	case api.Arith:
		return x.reckon(p)
	}
	return api.OK
}

// lay puts what was made of a part.
func (x *expansion) lay(p api.Part, text string) {
	x.put = append(x.put, piece{text: text, quoted: p.Quoted, split: !p.Quoted})
}

// reckon puts the number that arithmetic comes to, and sets the variables that it gave another value.
func (x *expansion) reckon(p api.Part) api.Errno {
	n, l, e := arith.Eval(p.Text, x.table.Vars())
	if e != api.OK {
		return e
	}
	for _, v := range l {
		if value, set := x.table.Get(v.Name); set && value == v.Value {
			continue
		}
		if e := x.table.Set(v.Name, v.Value); e != api.OK {
			return e
		}
	}
	x.lay(p, num.Text(n))
	return api.OK
}

// param puts what its Op makes of a parameter, or a variable. The value is the one ahead of its Word, which may set it anew.
func (x *expansion) param(p api.Part) api.Errno {
	value, set := x.table.Get(p.Text)
	op, colon := strings.CutPrefix(p.Op, ":")
	nothing := !set || colon && value == ""
	switch op {
	case "-":
		if nothing {
			return x.parts(p.Word, true)
		}
	case "+":
		if nothing {
			return api.OK
		}
		return x.parts(p.Word, true)
	case "?":
		if nothing {
			return api.ErrUnset
		}
	case "=":
		if nothing {
			return x.give(p)
		}
	case "len":
		x.lay(p, num.Text(x.length(p, value)))
		return api.OK
	case "#", "##", "%", "%%":
		return x.cut(p, op, value)
	}
	x.value(p, value)
	return api.OK
}

// value puts a value as it is: of the parameters each by itself, or all of them joined.
func (x *expansion) value(p api.Part, value string) {
	if !all(p) {
		x.lay(p, value)
		return
	}
	args := x.table.Args()
	if p.Quoted && p.Text == "*" {
		between := separators(x.table)
		x.lay(p, strings.Join(args, between[:min(1, len(between))]))
		return
	}
	for i, arg := range args {
		if i > 0 {
			x.put = append(x.put, piece{end: true})
		}
		x.lay(p, arg)
	}
}

// give sets a variable to its Word's text, and puts that.
func (x *expansion) give(p api.Part) api.Errno {
	if !word.Name(p.Text) {
		return api.ErrName
	}
	s, e := Text(p.Word, x.table, x.host)
	if e != api.OK {
		return e
	}
	if e := x.table.Set(p.Text, s); e != api.OK {
		return e
	}
	x.lay(p, s)
	return api.OK
}

// length is how many bytes a value has, or how many parameters there are.
func (x *expansion) length(p api.Part, value string) int {
	if all(p) {
		return len(x.table.Args())
	}
	return len(value)
}

// cut puts a value without what its Word's pattern fits.
func (x *expansion) cut(p api.Part, op, value string) api.Errno {
	if all(p) {
		return api.ErrName
	}
	pattern, e := Pattern(p.Word, x.table, x.host)
	if e != api.OK {
		return e
	}
	x.lay(p, match.Cut(pattern, value, op[0] == '%', len(op) == 2))
	return api.OK
}

// all tells whether a part stands for all parameters.
func all(p api.Part) bool {
	return p.Text == "@" || p.Text == "*"
}
