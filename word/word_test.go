package word

import (
	"regexp"
	"slices"
	"strings"
	"testing"

	"rehearsal/api"
	"rehearsal/short"
)

// signs is a text of one sign, n times.
func signs(n int) string { return strings.Repeat("x", n) }

// The makers of parts that tests hold against what is read.
func lit(s string) api.Part   { return api.Part{Kind: api.Lit, Text: s} }
func param(s string) api.Part { return api.Part{Kind: api.Param, Text: s} }
func cmd(s string) api.Part   { return api.Part{Kind: api.Command, Text: s} }
func sum(s string) api.Part   { return api.Part{Kind: api.Arith, Text: s} }
func with(s, op string, w ...api.Part) api.Part {
	return api.Part{Kind: api.Param, Text: s, Op: op, Word: w}
}
func q(p api.Part) api.Part {
	p.Quoted = true
	return p
}

// P7.1: each byte is what the document's words say.
func TestBytes(t *testing.T) {
	const letters = "abcdefghijklmnopqrstuvwxyzABCDEFGHIJKLMNOPQRSTUVWXYZ_"
	for i := range 256 {
		c := byte(i)
		s := string([]byte{c})
		if got := Letter(c); got != strings.Contains(letters, s) {
			t.Errorf("Letter(%q) = %v", s, got)
		}
		if got := Digit(c); got != strings.Contains("0123456789", s) {
			t.Errorf("Digit(%q) = %v", s, got)
		}
		if got := Meta(c); got != strings.Contains(" \t\n;&|<>()", s) {
			t.Errorf("Meta(%q) = %v", s, got)
		}
		if got := Name(s); got != strings.Contains(letters, s) {
			t.Errorf("Name(%q) = %v", s, got)
		}
		if got := Name("a" + s); got != (strings.Contains(letters, s) || strings.Contains("0123456789", s)) {
			t.Errorf("Name(%q) = %v", "a"+s, got)
		}
	}
}

// P7.1: a name is a letter, and letters and digits behind it, at most 64 bytes.
func TestName(t *testing.T) {
	for s, want := range map[string]bool{
		"": false, "a": true, "_": true, "Z9_": true, "9": false, "9a": false, "a b": false, "a-": false, "-a": false,
		"a\n": false, "é": false, "aé": false, "$a": false, "a\x00": false, "@": false, "a.b": false, "x_1": true,
		signs(64): true, signs(65): false, signs(300): false, "1" + signs(63): false, signs(63) + "1": true, signs(63) + "-": false,
	} {
		if got := Name(s); got != want {
			t.Errorf("Name(%q) = %v", s, got)
		}
	}
}

// P7.1: Inside counts parentheses, but those that are quoted.
func TestInside(t *testing.T) {
	for s, want := range map[string]int{
		")": 0, "": -1, "a": -1, "a)": 1, "a)b)": 1, "(a)": -1, "(a))": 3, "((a)(b)))": 8, "(()": -1, "a(b(c)d)e)f": 9,
		`\))`: 2, `\)`: -1, `\`: -1, `a\`: -1, `\\)`: 2, `\()`: 2, "\\\n)": 2, `\')`: 2, `\")`: 2,
		"')')": 3, "'('": -1, "'()": -1, "''": -1, "'')": 2, "'\\')": 3, `'")"')`: 5, "'a'')')": 6, "'\n')": 3, "'))": -1,
		`")")`: 3, `"("`: -1, `"()`: -1, `"")`: 2, `"\")")`: 5, `"\\")`: 4, `"\a)")`: 5, `"')'")`: 5, `"a\`: -1, `"a\")`: -1, `"$(a)")`: 6,
		"`)": 1, "`(`)": -1, "#)": 1, "# (\n)": -1, "a;b|c&d\n)": 8, "\x00\xff)": 2, "${)}": 2, "$(a)": -1, "$((1)))": 6,
	} {
		if got := Inside(s); got != want {
			t.Errorf("Inside(%q) = %d; want %d", s, got, want)
		}
	}
}

// token is what Inside passes over at once.
var token = regexp.MustCompile(`(?s)^(?:\\.|'[^']*'|"(?:\\.|[^"\\])*"|[^\\'"])`)

// insidePlainly goes from token to token.
func insidePlainly(s string) int {
	at, open := 0, 0
	for {
		x := token.FindString(s[at:])
		switch x {
		case "":
			return -1
		case "(":
			open++
		case ")":
			open--
		}
		if open < 0 {
			return at
		}
		at += len(x)
	}
}

// P7.1: Inside of all short texts.
func TestInsideShort(t *testing.T) {
	for _, s := range append(short.Texts("()'\"\\a", 7), short.Texts("()'\"\\`$\n ", 5)...) {
		if got, want := Inside(s), insidePlainly(s); got != want {
			t.Fatalf("Inside(%q) = %d; want %d", s, got, want)
		}
	}
}

// P7.1: Inside ends soon, whatever it is given.
func TestInsideLong(t *testing.T) {
	n := 1 << 20
	for _, c := range []struct {
		s    string
		want int
	}{
		{strings.Repeat("(", n), -1}, {strings.Repeat("(", n) + strings.Repeat(")", n+1), 2 * n}, {strings.Repeat("'\"'", n) + ")", 3 * n},
		{strings.Repeat("\"'", n), -1}, {strings.Repeat("\\", 2*n) + ")", 2 * n}, {strings.Repeat("\\", 2*n+1) + ")", -1},
	} {
		if got := Inside(c.s); got != c.want {
			t.Errorf("Inside of %d bytes = %d; want %d", len(c.s), got, c.want)
		}
	}
}

// P7.3: Same holds every field of every part against the other's, in order.
func TestSame(t *testing.T) {
	one := with("x", ":-", q(lit("a")), with("y", "%", lit("b")))
	words := [][]api.Part{
		nil, {lit("")}, {q(lit(""))}, {lit("a")}, {q(lit("a"))}, {lit("a"), lit("b")}, {lit("b"), lit("a")}, {lit("ab")},
		{param("a")}, {cmd("a")}, {sum("a")}, {{}}, {{Kind: 9, Text: "a"}}, {with("a", "len")}, {with("a", "-")}, {with("a", "-", lit(""))},
		{one}, {one, lit("")}, {q(one)}, {with("x", ":-", q(lit("a")), with("y", "%", lit("c")))}, {with("x", ":-", q(lit("a")), with("y", "%", q(lit("b"))))},
		{with("x", ":-", q(lit("a")), with("y", "%%", lit("b")))}, {with("x", ":-", lit("a"), with("y", "%", lit("b")))}, {with("x", ":-", q(lit("a")))},
	}
	for i, a := range words {
		for j, b := range words {
			if got := Same(a, clone(b)); got != (i == j) {
				t.Errorf("Same(%v, %v) = %v", a, b, got)
			}
		}
	}
	if !Same([]api.Part{}, nil) || !Same(nil, []api.Part{}) || !Same([]api.Part{{Word: []api.Part{}}}, []api.Part{{}}) {
		t.Error("nil and empty lists are not alike")
	}
}

// clone is a word that shares nothing with another.
func clone(w []api.Part) []api.Part {
	l := slices.Clone(w)
	for i := range l {
		l[i].Word = clone(l[i].Word)
	}
	return l
}

// nested is a parameter within a parameter, n times.
func nested(n int, op string) []api.Part {
	var w []api.Part
	for range n {
		w = []api.Part{with("x", op, w...)}
	}
	return w
}

// P7.3: words that are nested far deeper than they could be read.
func TestSameDeep(t *testing.T) {
	n := 1 << 16
	if !Same(nested(n, "-"), nested(n, "-")) || Same(nested(n, "-"), nested(n-1, "-")) {
		t.Error("deep words are not held against each other")
	}
}
