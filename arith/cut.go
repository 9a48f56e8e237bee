package arith

import (
	"strings"

	"rehearsal/api"
	"rehearsal/num"
	"rehearsal/word"
)

// token is what a text is cut into: a sign; a number; or a name.
type token struct {
	sign
	text string
	n    int
}

// cut cuts a text.
func cut(s string) ([]token, api.Errno) {
	var l []token
	for {
		s = strings.TrimLeft(s, " \t\n")
		if s == "" {
			return l, api.OK
		}
		if s[0] == '$' && len(s) > 1 && word.Letter(s[1]) {
			s = s[1:]
		}
		t, e := first(s)
		if e != api.OK {
			return nil, e
		}
		l = append(l, t)
		s = s[len(t.text):]
	}
}

// first is what a text, which isn't empty, begins with.
func first(s string) (token, api.Errno) {
	for _, x := range signs {
		if strings.HasPrefix(s, string(x)) {
			return token{sign: x, text: string(x)}, api.OK
		}
	}
	bytes := 0
	for bytes < len(s) && (word.Letter(s[bytes]) || word.Digit(s[bytes])) {
		bytes++
	}
	s = s[:bytes]
	if s != "" && word.Digit(s[0]) {
		n, e := num.Constant(s)
		return token{number, s, n}, e
	}
	if !word.Name(s) { // nothing stands there, or too much
		return token{}, api.ErrSyntax
	}
	return token{sign: name, text: s}, api.OK
}
