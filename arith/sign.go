package arith

import (
	"strings"

	"rehearsal/api"
)

// sign is one of the signs of arithmetic; or the kind of what is none.
type sign string

const (
	none   sign = ""
	number sign = "number"
	name   sign = "name"
)

// How tight signs between two parts bind: from 1 on.
const (
	loosest  = 1
	tightest = 10
)

// The greatest shift: there are 64 bits.
const mostShift = 63

// The longer ones come first: of two that stand in one place the longer counts.
var signs = [...]sign{
	"<<=", ">>=",
	"<<", ">>", "<=", ">=", "==", "!=", "&&", "||", "+=", "-=", "*=", "/=", "%=", "&=", "^=", "|=",
	"+", "-", "*", "/", "%", "<", ">", "!", "~", "&", "^", "|", "?", ":", "=", "(", ")",
}

// tight tells how tight a sign between two parts binds; 0, if it stands between none.
func (s sign) tight() int {
	switch s {
	case "||":
		return loosest
	case "&&":
		return 2
	case "|":
		return 3
	case "^":
		return 4
	case "&":
		return 5
	case "==", "!=":
		return 6
	case "<", "<=", ">", ">=":
		return 7
	case "<<", ">>":
		return 8
	case "+", "-":
		return 9
	case "*", "/", "%":
		return tightest
	}
	return 0
}

// gives tells whether a sign gives a name a number, and which sign stands ahead of its = , if one does.
func (s sign) gives() (sign, bool) {
	switch s {
	case "==", "!=", "<=", ">=":
		return none, false
	}
	by, ok := strings.CutSuffix(string(s), "=")
	if !ok {
		return none, false
	}
	return sign(by), true
}

// leads tells whether a sign may stand ahead of what it is of.
func (s sign) leads() bool {
	return s == "+" || s == "-" || s == "!" || s == "~"
}

// of is what a sign that stands ahead of a number makes of it.
func (s sign) of(n int) int {
	switch s {
	case "-":
		return -n
	case "!":
		return truth(n == 0)
	case "~":
		return ^n
	}
	return n
}

// settled tells whether the left number alone says what comes of a sign.
func (s sign) settled(left int) bool {
	return s == "&&" && left == 0 || s == "||" && left != 0
}

// between is what a sign that stands between two numbers makes of them.
func (s sign) between(a, b int) (int, api.Errno) {
	switch s {
	case "/", "%":
		return s.divided(a, b)
	case "<<", ">>":
		return s.shifted(a, b)
	case "+":
		return a + b, api.OK
	case "-":
		return a - b, api.OK
	case "*":
		return a * b, api.OK
	case "&":
		return a & b, api.OK
	case "^":
		return a ^ b, api.OK
	case "|":
		return a | b, api.OK
	}
	return truth(s.holds(a, b)), api.OK
}

// divided is what a / or a % makes of two numbers.
func (s sign) divided(a, b int) (int, api.Errno) {
	if b == 0 {
		return 0, api.ErrDivide
	}
	if s == "/" {
		return a / b, api.OK
	}
	return a % b, api.OK
}

// shifted is what a << or a >> makes of two numbers.
func (s sign) shifted(a, b int) (int, api.Errno) {
	if b < 0 || b > mostShift {
		return 0, api.ErrRange
	}
	if s == "<<" {
		return a << b, api.OK
	}
	return a >> b, api.OK
}

// holds tells whether what a sign says of two numbers is so.
func (s sign) holds(a, b int) bool {
	switch s {
	case "==":
		return a == b
	case "!=":
		return a != b
	case "<":
		return a < b
	case "<=":
		return a <= b
	case ">":
		return a > b
	case ">=":
		return a >= b
	case "&&":
		return a != 0 && b != 0
	}
	return a != 0 || b != 0
}

// truth is a truth as a number.
func truth(is bool) int {
	if is {
		return 1
	}
	return 0
}
