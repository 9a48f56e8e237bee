package word

import (
	"regexp"
	"strings"

	"rehearsal/api"
)

// level is something that isn't ended yet: the word itself (a blank, which never comes to be asked for), a quote (") , or the Word of braces (}).
type level struct {
	kind   byte
	from   int
	quoted bool
	braces api.Part
	atoms  []api.Part
}

var (
	plainParam = regexp.MustCompile(`^\$(?:[A-Za-z_][A-Za-z_0-9]*|[0-9@*#?])`)
	inBraces   = regexp.MustCompile(`^(?:[A-Za-z_][A-Za-z_0-9]*|[0-9]+|[@*#?])`)
	asksLength = regexp.MustCompile(`(?s)^#[^}]`)
	operation  = regexp.MustCompile(`^(?:[:][-=?+]|%%|##|[-=?+%#])`)
	single     = regexp.MustCompile(`^'([^']*)'`)
	escaping   = regexp.MustCompile(`(?s)^\\.`)
	inDouble   = regexp.MustCompile("^\\\\[$\"\\\\`\n]")
)

// model reads a word byte by byte, by the document's words, with a stack of what isn't ended yet.
type model struct {
	s     string
	at    int
	stack []level
	fault api.Errno // with its place in at
}

// scanPlainly is Scan as the model has it.
func scanPlainly(s string, at int) ([]api.Part, int, api.Errno) {
	m := &model{s: s, at: at, stack: []level{{kind: ' '}}}
	for m.step() {
	}
	if m.fault != api.OK {
		return nil, m.at, m.fault
	}
	return joined(m.stack[0].atoms), m.at, api.OK
}

// joined makes one part of texts that stand side by side.
func joined(atoms []api.Part) []api.Part {
	var l []api.Part
	for _, p := range atoms {
		if n := len(l) - 1; n >= 0 && p.Kind == api.Lit && l[n].Kind == api.Lit && p.Quoted == l[n].Quoted {
			l[n].Text += p.Text
		} else {
			l = append(l, p)
		}
	}
	return l
}

func (m *model) top() *level { return &m.stack[len(m.stack)-1] }

func (m *model) put(p api.Part, bytes int) bool {
	m.top().atoms = append(m.top().atoms, p)
	m.at += bytes
	return true
}

func (m *model) fail(e api.Errno, at int) bool {
	m.at, m.fault = at, e
	return false
}

// step reads on; it is false, if there is nothing more to read.
func (m *model) step() bool {
	x, left := *m.top(), m.s[m.at:]
	switch {
	case left == "" && x.kind == ' ':
		return false
	case left == "":
		return m.fail(api.ErrQuote, x.from)
	case x.kind == ' ' && strings.ContainsAny(left[:1], " \t\n;&|<>()"):
		return false
	case x.kind == left[0]:
		return m.end(x)
	case left[0] == '\\':
		return m.escape(x, left)
	case left[0] == '`':
		return m.fail(api.ErrSyntax, m.at)
	case left[0] == '$':
		return m.dollar(x, left)
	case left[0] == '\'' && x.kind != '"':
		if y := single.FindStringSubmatch(left); y != nil {
			return m.put(q(lit(y[1])), len(y[0]))
		}
		return m.fail(api.ErrQuote, m.at)
	case left[0] == '"':
		m.stack = append(m.stack, level{kind: '"', from: m.at, quoted: true})
		m.at++
		return true
	}
	return m.plain(x, left)
}

// end ends the quote, or the braces, that were begun last.
func (m *model) end(x level) bool {
	m.stack = m.stack[:len(m.stack)-1]
	switch {
	case x.kind == '}':
		x.braces.Word = joined(x.atoms)
		return m.put(x.braces, 1)
	case m.at == x.from+1:
		return m.put(q(lit("")), 1)
	}
	m.top().atoms = append(m.top().atoms, x.atoms...)
	m.at++
	return true
}

func (m *model) plain(x level, left string) bool {
	p := lit(left[:1])
	p.Quoted = x.quoted
	return m.put(p, 1)
}

func (m *model) escape(x level, left string) bool {
	switch {
	case left == "\\":
		return m.fail(api.ErrQuote, m.at)
	case left[1] == '\n':
		m.at += 2
		return true
	case x.kind == '"' && inDouble.MatchString(left), x.kind != '"' && escaping.MatchString(left):
		return m.put(q(lit(left[1:2])), 2)
	}
	return m.plain(x, left)
}

func (m *model) dollar(x level, left string) bool {
	p := api.Part{Quoted: x.quoted}
	switch y := plainParam.FindString(left); {
	case len(y) > 65:
		return m.fail(api.ErrSyntax, m.at+1)
	case y != "":
		p.Kind, p.Text = api.Param, y[1:]
		return m.put(p, len(y))
	case strings.HasPrefix(left, "${"):
		return m.braces(x)
	case strings.HasPrefix(left, "$(("):
		return m.arith(p, left[3:])
	case strings.HasPrefix(left, "$("):
		n := insidePlainly(left[2:])
		if n < 0 {
			return m.fail(api.ErrQuote, m.at)
		}
		p.Kind, p.Text = api.Command, left[2:2+n]
		return m.put(p, n+3)
	}
	return m.plain(x, left)
}

func (m *model) arith(p api.Part, left string) bool {
	for n := range len(left) {
		switch ahead := left[:n]; {
		case strings.ContainsAny(left[n:n+1], "'\"\\`\n"):
			return m.fail(api.ErrSyntax, m.at+3+n)
		case left[n] != ')' || strings.Count(ahead, "(") > strings.Count(ahead, ")"):
		case !strings.HasPrefix(left[n:], "))"):
			return m.fail(api.ErrSyntax, m.at+3+n)
		default:
			p.Kind, p.Text = api.Arith, ahead
			return m.put(p, n+5)
		}
	}
	return m.fail(api.ErrQuote, m.at)
}

func (m *model) braces(x level) bool {
	from, deep := m.at, 0
	for _, y := range m.stack {
		if y.kind == '}' {
			deep++
		}
	}
	if deep == 16 {
		return m.fail(api.ErrDeep, from)
	}
	m.at += 2
	p := api.Part{Kind: api.Param, Quoted: x.quoted}
	if asksLength.MatchString(m.s[m.at:]) {
		p.Op = "len"
		m.at++
	}
	p.Text = inBraces.FindString(m.s[m.at:])
	if p.Text == "" || len(p.Text) > 64 {
		return m.fail(api.ErrSyntax, m.at)
	}
	m.at += len(p.Text)
	if op := operation.FindString(m.s[m.at:]); op != "" && p.Op == "" {
		p.Op = op
		m.at += len(op)
		m.stack = append(m.stack, level{kind: '}', from: from, quoted: x.quoted, braces: p})
		return true
	}
	switch left := m.s[m.at:]; {
	case left == "":
		return m.fail(api.ErrQuote, from)
	case left[0] != '}':
		return m.fail(api.ErrSyntax, m.at)
	}
	return m.put(p, 1)
}
