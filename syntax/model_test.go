package syntax

import (
	"math/rand"
	"regexp"
	"slices"
	"strings"
	"testing"

	"rehearsal/api"
)

// grammar is what scripts are, by the document's words: each line a name, and behind the ; what it may be, with | between. 'x' is a sign or a key word, and capitals are kinds of tokens (see fits); BREAK is nothing, ahead of a sign or the end.
const grammar = `
script     ; newlines | newlines lists
newlines   ; | 'nl' newlines
lists      ; newlines first rest more
more       ; | sep newlines | sep newlines first rest more
sep        ; ';' | 'nl'
first      ; '!' cmd cmds | FIRSTCALL paren cmds | STARTUNMARKED things cmds | compound cmds | ARROW WORD things cmds
rest       ; | '&&' newlines pipe rest | '||' newlines pipe rest
pipe       ; '!' cmd cmds | CALL paren cmds | STARTUNMARKED things cmds | compound cmds | ARROW WORD things cmds
cmds       ; | '|' newlines cmd cmds
cmd        ; CALL paren | START things | compound | ARROW WORD things
things     ; BREAK | WORD things | ARROW WORD things
redirs     ; | ARROW WORD redirs
paren      ; ')' newlines compound
compound   ; '(' lists ')' redirs | '{' lists '}' redirs | 'if' lists 'then' lists else redirs
compound   ; 'while' lists 'do' lists 'done' redirs | 'until' lists 'do' lists 'done' redirs
compound   ; 'for' NAME newlines words 'do' lists 'done' redirs | 'case' WORD newlines 'in' newlines branches redirs
else       ; 'fi' | 'else' lists 'fi' | 'elif' lists 'then' lists else
words      ; | ';' newlines | 'in' some ';' newlines | 'in' some 'nl' newlines
some       ; | WORD some
branches   ; 'esac' | '(' WORD patterns | UNESAC patterns
patterns   ; '|' WORD patterns | ')' newlines body
body       ; 'esac' | ';;' newlines branches | lists 'esac' | lists ';;' newlines branches
`

// rules are what each name of the grammar may be.
func rules() map[string][]string {
	m := map[string][]string{}
	for _, line := range strings.Split(strings.TrimSpace(grammar), "\n") {
		name, text, _ := strings.Cut(line, ";")
		name = strings.TrimSpace(name)
		// A | with a blank on both sides is no sign.
		m[name] = append(m[name], strings.Split(" "+text+" ", " | ")...)
	}
	return m
}

var (
	signs  = regexp.MustCompile(`^(?:&&|\|\||;;|>>|<&|>&|nl|[&|;<>()])$`)
	arrows = regexp.MustCompile(`^2?(?:<|>|>>|<&|>&)$`)
	calls  = regexp.MustCompile(`^.+\($`)
	names  = regexp.MustCompile(`^[a-z]+\(?$`)
	begins = regexp.MustCompile(`^(?:if|while|until|for|case|\{)\(?$`)
	ends   = regexp.MustCompile(`^(?:then|else|elif|fi|do|done|esac|\})\(?$`)
)

// fits tells whether a token is of a kind. There are two that come apart elsewhere: a redirection's digit with its sign, and a function's name with its ( .
func fits(token, kind string) bool {
	name, begun, ended := names.MatchString(token), begins.MatchString(token), ends.MatchString(token)
	switch {
	case kind[0] == '\'':
		return token == strings.Trim(kind, "'")
	case kind == "ARROW":
		return arrows.MatchString(token)
	case kind == "CALL":
		return calls.MatchString(token) && name && !begun
	case kind == "FIRSTCALL":
		return calls.MatchString(token) && name && !begun && !ended
	case signs.MatchString(token), arrows.MatchString(token), calls.MatchString(token):
		return false
	case kind == "NAME":
		return name
	case kind == "START":
		return !begun && !ended
	case kind == "STARTUNMARKED":
		return !begun && !ended && token != "!"
	case kind == "UNESAC":
		return token != "esac"
	}
	return kind == "WORD"
}

// state is what may still come: lists of kinds and names, each in a text. Each begins with a kind, but for the empty one: nothing more need come.
type state struct {
	may  []string
	next map[string]*state // by tokens
}

// machine is all states so far.
type machine struct {
	rules  map[string][]string
	states map[string]*state
}

func newMachine() (*machine, *state) {
	m := &machine{rules(), map[string]*state{}}
	return m, m.state([]string{"script"})
}

// state is the state of what may come, once names are what they may be.
func (m *machine) state(todo []string) *state {
	seen := map[string]bool{}
	var may []string
	for len(todo) > 0 {
		one := strings.Join(strings.Fields(todo[len(todo)-1]), " ")
		todo = todo[:len(todo)-1]
		if seen[one] {
			continue
		}
		seen[one] = true
		name, rest, _ := strings.Cut(one, " ")
		if m.rules[name] == nil {
			may = append(may, one)
		}
		for _, r := range m.rules[name] {
			todo = append(todo, r+" "+rest)
		}
	}
	slices.Sort(may)
	key := strings.Join(may, "\n")
	if m.states[key] == nil {
		m.states[key] = &state{may, map[string]*state{}}
	}
	return m.states[key]
}

// behind is the state behind a token.
func (m *machine) behind(x *state, token string) *state {
	if x.next[token] == nil {
		var l []string
		for _, one := range x.may {
			kind, rest, _ := strings.Cut(one, " ")
			switch {
			case kind == "BREAK" && signs.MatchString(token):
				l = append(l, m.behind(m.state([]string{rest}), token).may...)
			case kind != "" && fits(token, kind):
				l = append(l, rest)
			}
		}
		x.next[token] = m.state(l)
	}
	return x.next[token]
}

// over tells whether nothing more need come.
func (m *machine) over(x *state) bool {
	return slices.ContainsFunc(x.may, func(one string) bool {
		kind, rest, _ := strings.Cut(one, " ")
		return one == "" || kind == "BREAK" && m.over(m.state([]string{rest}))
	})
}

// item is a token as it stands in a script, with the place of its sign, or word; a word may have a fault at a place.
type item struct {
	text, token string
	at          int
	e           api.Errno
	fault       int
}

// items are tokens as they stand in scripts.
func items(texts ...string) []item {
	var l []item
	for _, s := range texts {
		x := item{text: " " + s, token: s, at: 1}
		switch s {
		case "nl":
			x = item{text: "\n", token: s}
		case "#nl":
			x = item{text: " # '\n", token: "nl", at: 4}
		case "2>":
			x.text, x.at = " \t\\\n2>", 4
		case "$(a|)":
			x.e, x.fault = api.ErrEnd, 1
		case "${x!}":
			x.e, x.fault = api.ErrSyntax, 4
		case "$(fi)${x-$(a|)}":
			x.e, x.fault = api.ErrSyntax, 1
		}
		l = append(l, x)
	}
	return l
}

// apart are the two tokens that one comes to where it may not stand as one.
func apart(token string) (string, string) {
	n := len(token) - 1
	if arrows.MatchString(token) && n > 0 && token[0] == '2' {
		n = 1
	} else if !calls.MatchString(token) {
		n = 0
	}
	return token[:n], token[n:]
}

// step tells the state behind an item, or the fault that it brings with it.
func (m *machine) step(x *state, i item) (*state, int, api.Errno) {
	next := m.behind(x, i.token)
	if a, b := apart(i.token); a != "" {
		first := m.behind(x, a)
		second := m.behind(first, b)
		if len(first.may) > 0 && len(second.may) == 0 && len(next.may) == 0 {
			return nil, i.at + len(a), api.ErrSyntax
		}
		next = m.state(append(slices.Clone(next.may), second.may...))
	}
	switch {
	case len(next.may) == 0:
		return nil, i.at, api.ErrSyntax
	case i.e != api.OK:
		return nil, i.fault, i.e
	}
	return next, 0, api.OK
}

// check holds what is told of a script that comes to a state.
func (m *machine) check(t *testing.T, s string, x *state) {
	t.Helper()
	want, place := api.OK, 0
	if !m.over(x) {
		want, place = api.ErrEnd, len(s)
	}
	if l, at, e := Parse(s); at != place || e != want || e != api.OK && l != nil {
		t.Fatalf("Parse(%q) = %+v, %d, %d; want %d, %d", s, l, at, e, place, want)
	}
}

// checkFault holds what is told of a script with a fault, whatever stands behind it.
func checkFault(t *testing.T, s string, place int, want api.Errno) {
	t.Helper()
	for _, tail := range []string{"", " a", "\n", " fi )", " #'"} {
		if l, at, e := Parse(s + tail); l != nil || at != place || e != want {
			t.Fatalf("Parse(%q) = %+v, %d, %d; want %d, %d", s+tail, l, at, e, place, want)
		}
	}
}

// all goes through all scripts of some items, up to a number of more items.
func (m *machine) all(t *testing.T, s string, x *state, l []item, most int) {
	m.check(t, s, x)
	if most == 0 {
		return
	}
	for _, i := range l {
		if next, at, e := m.step(x, i); e != api.OK {
			checkFault(t, s+i.text, len(s)+at, e)
		} else {
			m.all(t, s+i.text, next, l, most-1)
		}
	}
}

// P8.1: all short scripts of tokens.
func TestParseShort(t *testing.T) {
	m, x := newMachine()
	for _, c := range []struct {
		most  int
		items string
	}{
		{3, "a 2> x=1 $x '' ! > <& && || | ; ;; nl #nl & ( f( fi( if( !( ) { } if then else elif fi while until do done for in case esac $(a|) ${x!}"},
		{5, "a ! && | ; nl ( ) $(a|)"},
		{5, "f f( ( ) { } ; 2> nl ${x!}"},
		{6, "a if then else elif fi ;"},
		{7, "for x in do done ; nl"},
		{6, "case a in | ( ) ;; esac nl"},
		{5, "a > 2> x=1 ( ) in for"},
		{5, "while do( done ( ) a nl"},
		{5, "then( if( fi( do a && ) ;"},
	} {
		m.all(t, "", x, items(strings.Fields(c.items)...), c.most)
	}
}

// P8.1: long scripts of tokens, of which each may stand behind those ahead of it; and with one that may not behind them.
func TestParseLong(t *testing.T) {
	m, start := newMachine()
	l := items(strings.Fields("a f in '' $x x=1 ! 2> > <& && || | ; ; ;; nl #nl & ( ( f( f( if( fi( !( ) ) ) { } } if then then else elif fi fi while until do do done done for case esac esac $(a|) ${x!} $(fi)${x-$(a|)}")...)
	r := rand.New(rand.NewSource(8))
	for range 300 {
		s, x, opened := "", start, 0
		for range 30 + r.Intn(200) {
			i := l[r.Intn(len(l))]
			next, at, e := m.step(x, i)
			opens := strings.Contains(" ( { if elif while until for case ", " "+i.token+" ") || calls.MatchString(i.token)
			switch {
			case e != api.OK:
				checkFault(t, s+i.text, len(s)+at, e)
				continue
			case opens && opened == 8:
				// Each comes to two levels at most: so nothing is too deep.
				continue
			case opens:
				opened++
			}
			s, x = s+i.text, next
			m.check(t, s, x)
		}
	}
}
