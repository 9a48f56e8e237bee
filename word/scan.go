package word

import (
	"strings"

	"rehearsal/api"
)

// length is the operation that tells how long a parameter's value is: alone of all it stands ahead of the parameter, as a # .
const length = "len"

// fault is what reading is given up with.
type fault struct {
	at int
	e  api.Errno
}

// Scan cuts the word that begins at a place: it tells its parts, and the place behind it; or that of a fault.
func Scan(s string, at int) (l []api.Part, next int, e api.Errno) {
	if at < 0 || at > len(s) || len(s) > api.MaxText {
		return nil, 0, api.ErrArg
	}
	defer func() {
		switch x := recover().(type) {
		case nil:
		case fault:
			l, next, e = nil, x.at, x.e
		default:
			// No fault of the text: not to be taken for one.
			panic(x)
		}
	}()
	r := reader{s: s, at: at}
	l = r.parts(false, Meta)
	return l, r.at, api.OK
}

// reader reads a text from a place on. Its methods give up by a panic with a fault.
type reader struct {
	s    string
	at   int
	deep int // the braces around that place
}

// parts reads parts up to a byte that ends them, or the text's end.
func (r *reader) parts(quoted bool, ends func(byte) bool) []api.Part {
	var g gather
	for !r.over() && !ends(r.s[r.at]) {
		switch r.s[r.at] {
		case '\'':
			r.single(&g)
		case '"':
			r.double(&g)
		default:
			r.piece(&g, quoted, escapes)
		}
	}
	g.close()
	return g.parts
}

// single reads what stands in ' .
func (r *reader) single(g *gather) {
	n := strings.IndexByte(r.s[r.at+1:], '\'')
	if n < 0 {
		panic(fault{r.at, api.ErrQuote})
	}
	r.at++
	g.add(r.take(n), true)
	r.at++
}

// double reads what stands in " . Both stand side by side where that is an empty text: between others there may be no part at all, as of a \ with a newline.
func (r *reader) double(g *gather) {
	from := r.at
	r.at++
	if r.stands(`"`) {
		g.add("", true)
	}
	for !r.stands(`"`) {
		if r.over() {
			panic(fault{from, api.ErrQuote})
		}
		r.piece(g, true, escapesInDouble)
	}
	r.at++
}

// piece reads what stands alike in a word and in double quotes, but for the bytes that a \ quotes.
func (r *reader) piece(g *gather, quoted bool, escapes func(byte) bool) {
	switch r.s[r.at] {
	case '\\':
		r.escape(g, escapes)
	case '$':
		r.dollar(g, quoted)
	case '`':
		panic(fault{r.at, api.ErrSyntax})
	default:
		g.add(r.take(1), quoted)
	}
}

// escapes tells whether a \ in a word quotes a byte.
func escapes(byte) bool {
	return true
}

// escapesInDouble tells whether a \ in double quotes quotes a byte.
func escapesInDouble(c byte) bool {
	return strings.IndexByte("$\"\\`\n", c) >= 0
}

// escape reads a \ , with the byte that it quotes.
func (r *reader) escape(g *gather, escapes func(byte) bool) {
	if r.at+1 == len(r.s) {
		panic(fault{r.at, api.ErrQuote})
	}
	if !escapes(r.s[r.at+1]) {
		// It stands in double quotes, and so is quoted itself.
		g.add(r.take(1), true)
		return
	}
	r.at++
	if c := r.take(1); c != "\n" {
		g.add(c, true)
	}
}

// dollar reads a $ , with what it begins.
func (r *reader) dollar(g *gather, quoted bool) {
	from := r.at
	r.at++
	var p api.Part
	switch {
	case r.pass("{"):
		p = r.braces(from, quoted)
	case r.pass("(("):
		p = r.arith(from)
	case r.pass("("):
		p = r.command(from)
	case !r.over() && Digit(r.s[r.at]):
		p = api.Part{Kind: api.Param, Text: r.take(1)}
	case r.parameterStands():
		p = api.Part{Kind: api.Param, Text: r.parameter()}
	default:
		g.add("$", quoted)
		return
	}
	p.Quoted = quoted
	g.put(p)
}

// braces reads what stands behind a ${ , the } too.
func (r *reader) braces(from int, quoted bool) api.Part {
	if r.deep == api.MaxDeep {
		panic(fault{from, api.ErrDeep})
	}
	r.deep++
	p := api.Part{Kind: api.Param}
	if r.lengthStands() {
		r.at++
		p.Op = length
	}
	p.Text = r.parameter()
	if p.Op == "" {
		p.Op = r.operation()
		if p.Op != "" {
			p.Word = r.parts(quoted, func(c byte) bool { return c == '}' })
		}
	}
	switch {
	case r.over():
		panic(fault{from, api.ErrQuote})
	case !r.pass("}"):
		panic(fault{r.at, api.ErrSyntax})
	}
	r.deep--
	return p
}

// lengthStands tells whether a # begins what is left of braces that is no parameter itself.
func (r *reader) lengthStands() bool {
	return r.stands("#") && r.at+1 < len(r.s) && r.s[r.at+1] != '}'
}

// parameterStands tells whether a parameter begins what is left.
func (r *reader) parameterStands() bool {
	return !r.over() && (named(r.s[r.at]) || strings.IndexByte("@*#?", r.s[r.at]) >= 0)
}

// parameter reads a name, digits, or a sign.
func (r *reader) parameter() string {
	if !r.parameterStands() {
		panic(fault{r.at, api.ErrSyntax})
	}
	n := 1
	switch left := r.s[r.at:]; {
	case Letter(left[0]):
		n = leading(left, named)
	case Digit(left[0]):
		n = leading(left, Digit)
	}
	if n > api.MaxName {
		panic(fault{r.at, api.ErrSyntax})
	}
	return r.take(n)
}

// operation reads what is done with a parameter; it is empty, if that is nothing.
func (r *reader) operation() string {
	for _, op := range [...]string{":-", ":=", ":?", ":+", "%%", "##", "-", "=", "?", "+", "%", "#"} {
		if r.pass(op) {
			return op
		}
	}
	return ""
}

// arith reads what stands behind a $(( , the )) too.
func (r *reader) arith(from int) api.Part {
	start, open := r.at, 0
	for ; !r.over(); r.at++ {
		switch r.s[r.at] {
		case '\'', '"', '\\', '`', '\n':
			panic(fault{r.at, api.ErrSyntax})
		case '(':
			open++
		case ')':
			if open > 0 {
				open--
				continue
			}
			text := r.s[start:r.at]
			if !r.pass("))") {
				panic(fault{r.at, api.ErrSyntax})
			}
			return api.Part{Kind: api.Arith, Text: text}
		}
	}
	panic(fault{from, api.ErrQuote})
}

// command reads what stands behind a $( , the ) too.
func (r *reader) command(from int) api.Part {
	n := Inside(r.s[r.at:])
	if n < 0 {
		panic(fault{from, api.ErrQuote})
	}
	p := api.Part{Kind: api.Command, Text: r.take(n)}
	r.at++
	return p
}

// over tells whether the text's end is reached.
func (r *reader) over() bool {
	return r.at == len(r.s)
}

// stands tells whether a sign begins what is left.
func (r *reader) stands(sign string) bool {
	return strings.HasPrefix(r.s[r.at:], sign)
}

// pass passes over a sign, if that begins what is left.
func (r *reader) pass(sign string) bool {
	if !r.stands(sign) {
		return false
	}
	r.at += len(sign)
	return true
}

// take reads some bytes, of which so many are left.
func (r *reader) take(n int) string {
	s := r.s[r.at : r.at+n]
	r.at += n
	return s
}
