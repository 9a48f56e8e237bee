package word

import (
	"strings"

	"rehearsal/api"
)

// Print writes a word.
func Print(w []api.Part) (string, api.Errno) {
	var b strings.Builder
	if !write(&b, w) {
		return "", api.ErrArg
	}
	s := b.String()
	l, next, e := Scan(s, 0)
	if e != api.OK || next != len(s) || !Same(l, w) {
		return "", api.ErrArg
	}
	return s, api.OK
}

// write writes parts, one behind the other. It leaves off, and answers false, where what it writes can't be scanned: what is handed in may be nested far deeper, and come to far more bytes, than any word.
func write(b *strings.Builder, w []api.Part) bool {
	for _, p := range w {
		if b.Len()+len(p.Text)+len(p.Op) > api.MaxText {
			return false
		}
		quote := ""
		if p.Quoted && p.Kind != api.Lit {
			quote = `"`
		}
		b.WriteString(quote)
		if !writePart(b, p) {
			return false
		}
		b.WriteString(quote)
	}
	return true
}

// writePart writes a part, but for the " around it.
func writePart(b *strings.Builder, p api.Part) bool {
	switch p.Kind {
	case api.Lit:
		b.WriteString(literal(p))
	case api.Param:
		return writeParam(b, p)
	case api.Command:
		b.WriteString("$(" + p.Text + ")")
	case api.Arith:
		b.WriteString("$((" + p.Text + "))")
	default:
		return false
	}
	return true
}

// literal is how a text is written.
func literal(p api.Part) string {
	if !p.Quoted {
		return p.Text
	}
	return "'" + strings.ReplaceAll(p.Text, "'", `'\''`) + "'"
}

// writeParam writes a parameter in braces.
func writeParam(b *strings.Builder, p api.Part) bool {
	if p.Op == length {
		b.WriteString("${#" + p.Text + "}")
		return true
	}
	b.WriteString("${" + p.Text + p.Op)
	ok := write(b, p.Word)
	b.WriteString("}")
	return ok
}
