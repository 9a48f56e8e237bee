package arith

import (
	"math/big"
	"math/rand"
	"regexp"
	"slices"
	"strconv"
	"strings"
	"testing"

	"rehearsal/api"
	"rehearsal/short"
)

// The chapter's words, said once more: a list of what a text is cut into is split where it binds loosest, with signs looked up as texts.

// scope is what a model reckons with: the variables, and the first error.
type scope struct {
	names  []string
	values map[string]string
	e      api.Errno
}

// thunk reckons something. It does nothing where there was an error.
type thunk func(*scope) int

// piece is the first thing of a text, what is passed over ahead of it left out.
var piece = regexp.MustCompile(`^(?:\$?([A-Za-z_][A-Za-z_0-9]*)|([0-9][A-Za-z_0-9]*)|(<<=|>>=|<<|>>|<=|>=|==|!=|&&|\|\||[-+*/%&^|]=|[-+*/%<>!~&^|?:=()]))`)

var decimal = regexp.MustCompile(`^[-+]?[0-9]+$`)

// levels are the signs between two parts, from the loosest on.
var levels = []string{"||", "&&", "|", "^", "&", "== !=", "< <= > >=", "<< >>", "+ -", "* / %"}

// among tells whether a sign is one of some, which stand with blanks between.
func among(l, s string) bool { return strings.Contains(" "+l+" ", " "+s+" ") }

// constantPlainly is a constant's number.
func constantPlainly(s string) (int, api.Errno) {
	digits, base := s, 10
	switch {
	case strings.HasPrefix(s, "0x") || strings.HasPrefix(s, "0X"):
		digits, base = s[2:], 16
	case len(s) > 1 && s[0] == '0':
		digits, base = s[1:], 8
	}
	n, ok := new(big.Int).SetString(digits, base)
	if !ok || strings.ContainsAny(digits, "_+-") {
		return 0, api.ErrNumber
	}
	if !n.IsInt64() {
		return 0, api.ErrRange
	}
	return int(n.Int64()), api.OK
}

// decimalPlainly is the number of a variable's value.
func decimalPlainly(s string) (int, api.Errno) {
	if decimal.MatchString(s) {
		if n, _ := new(big.Int).SetString(s, 10); n.IsInt64() {
			return int(n.Int64()), api.OK
		}
	}
	return constantPlainly(s)
}

func cutPlainly(s string) ([]string, api.Errno) {
	var l []string
	for {
		s = strings.TrimLeft(s, " \t\n")
		if s == "" {
			return l, api.OK
		}
		m := piece.FindStringSubmatch(s)
		if m == nil || len(m[1]) > 64 {
			return nil, api.ErrSyntax
		}
		if m[2] != "" {
			if _, e := constantPlainly(m[2]); e != api.OK {
				return nil, e
			}
		}
		l = append(l, m[1]+m[2]+m[3])
		s = s[len(m[0]):]
	}
}

// isName tells whether a piece is a name.
func isName(s string) bool {
	return s[0] == '_' || s[0] >= 'a' && s[0] <= 'z' || s[0] >= 'A' && s[0] <= 'Z'
}

// isPart tells whether a piece ends a part.
func isPart(s string) bool { return isName(s) || s[0] >= '0' && s[0] <= '9' || s == ")" }

// outside tells where things stand that no parentheses are around.
func outside(l []string) []int {
	var at []int
	deep := 0
	for i, s := range l {
		switch {
		case s == "(":
			deep++
		case s == ")":
			deep--
		case deep == 0:
			at = append(at, i)
		}
	}
	return at
}

func allPlainly(l []string) thunk {
	if len(l) < 2 || !isName(l[0]) || !among("= += -= *= /= %= <<= >>= &= ^= |=", l[1]) {
		return choicePlainly(l)
	}
	part := allPlainly(l[2:])
	if part == nil {
		return nil
	}
	return func(c *scope) int {
		n := part(c)
		if by := strings.TrimSuffix(l[1], "="); by != "" {
			n = twoPlainly(c, by, namePlainly(c, l[0]), n)
		}
		return givePlainly(c, l[0], n)
	}
}

func choicePlainly(l []string) thunk {
	var marks []int
	for _, i := range outside(l) {
		if l[i] != "?" && l[i] != ":" {
			continue
		}
		marks = append(marks, i)
		colons := 0
		for _, m := range marks {
			if l[m] == ":" {
				colons++
			}
		}
		if colons*2 == len(marks) {
			by, yes, no := pairPlainly(l[:marks[0]], 0), allPlainly(l[marks[0]+1:i]), choicePlainly(l[i+1:])
			if l[marks[0]] != "?" || by == nil || yes == nil || no == nil {
				return nil
			}
			return func(c *scope) int {
				if by(c) != 0 {
					return yes(c)
				}
				return no(c)
			}
		}
	}
	return pairPlainly(l, 0)
}

func pairPlainly(l []string, level int) thunk {
	if level == len(levels) {
		return ledPlainly(l)
	}
	at := outside(l)
	slices.Reverse(at)
	for _, i := range at {
		if i == 0 || !isPart(l[i-1]) || !among(levels[level], l[i]) {
			continue
		}
		a, b := pairPlainly(l[:i], level), pairPlainly(l[i+1:], level+1)
		if a == nil || b == nil {
			return nil
		}
		return func(c *scope) int {
			n := a(c)
			if l[i] == "&&" && n == 0 {
				return 0
			}
			if l[i] == "||" && n != 0 {
				return 1
			}
			return twoPlainly(c, l[i], n, b(c))
		}
	}
	return pairPlainly(l, level+1)
}

func ledPlainly(l []string) thunk {
	switch {
	case len(l) == 0:
		return nil
	case among("+ - ! ~", l[0]):
		part := ledPlainly(l[1:])
		if part == nil {
			return nil
		}
		return func(c *scope) int {
			n := part(c)
			return map[string]int{"+": n, "-": 0 - n, "~": -1 - n, "!": map[bool]int{n == 0: 1}[true]}[l[0]]
		}
	case len(l) > 2 && l[0] == "(" && l[len(l)-1] == ")":
		return allPlainly(l[1 : len(l)-1])
	case len(l) > 1 || !isPart(l[0]) || l[0] == ")":
		return nil
	case isName(l[0]):
		return func(c *scope) int { return namePlainly(c, l[0]) }
	}
	n, _ := constantPlainly(l[0])
	return func(*scope) int { return n }
}

func namePlainly(c *scope, name string) int {
	if c.e != api.OK || c.values[name] == "" {
		return 0
	}
	n, e := decimalPlainly(c.values[name])
	c.e = e
	return n
}

func givePlainly(c *scope, name string, n int) int {
	if c.e != api.OK {
		return 0
	}
	if !slices.Contains(c.names, name) {
		if len(c.names) == 64 {
			c.e = api.ErrLimit
			return 0
		}
		c.names = append(c.names, name)
	}
	c.values[name] = strconv.Itoa(n)
	return n
}

// low is the low 64 bits of a number of any length.
func low(n *big.Int) int {
	return int(new(big.Int).And(n, new(big.Int).SetUint64(1<<64-1)).Uint64())
}

func twoPlainly(c *scope, by string, n, m int) int {
	if c.e != api.OK {
		return 0
	}
	a, b, r := big.NewInt(int64(n)), big.NewInt(int64(m)), new(big.Int)
	switch {
	case among("/ %", by) && m == 0:
		c.e = api.ErrDivide
		return 0
	case among("<< >>", by) && (m < 0 || m > 63):
		c.e = api.ErrRange
		return 0
	}
	truth := map[string]bool{"||": n != 0 || m != 0, "&&": n != 0 && m != 0, "==": n == m, "!=": n != m, "<": n < m, "<=": n <= m, ">": n > m, ">=": n >= m}
	switch by {
	case "|":
		r.Or(a, b)
	case "^":
		r.Xor(a, b)
	case "&":
		r.And(a, b)
	case "<<":
		r.Lsh(a, uint(m))
	case ">>":
		r.Rsh(a, uint(m))
	case "+":
		r.Add(a, b)
	case "-":
		r.Sub(a, b)
	case "*":
		r.Mul(a, b)
	case "/":
		r.Quo(a, b)
	case "%":
		r.Rem(a, b)
	default:
		if truth[by] {
			r.SetInt64(1)
		}
	}
	return low(r)
}

// evalPlainly is Eval as the model has it, of texts that keep to the limits, and aren't deep.
func evalPlainly(s string, vars []api.Var) (int, []api.Var, api.Errno) {
	c := &scope{values: map[string]string{}}
	for _, v := range vars {
		c.names = append(c.names, v.Name)
		c.values[v.Name] = v.Value
	}
	l, e := cutPlainly(s)
	if e != api.OK {
		return 0, nil, e
	}
	n := 0
	if len(l) > 0 {
		t := allPlainly(l)
		if t == nil {
			return 0, nil, api.ErrSyntax
		}
		n = t(c)
	}
	if c.e != api.OK {
		return 0, nil, c.e
	}
	var now []api.Var
	for _, name := range c.names {
		now = append(now, api.Var{Name: name, Value: c.values[name]})
	}
	return n, now, api.OK
}

// checkPlainly holds Eval of a text against the model's.
func checkPlainly(t *testing.T, s string, vars []api.Var) {
	t.Helper()
	n, now, e := Eval(s, vars)
	if m, then, f := evalPlainly(s, vars); n != m || e != f || !slices.Equal(now, then) {
		t.Errorf("Eval(%q) = %d, %v, %d; want %d, %v, %d", s, n, now, e, m, then, f)
	}
}

// modelVars are variables of all kinds of values; two more names are none.
var modelVars = []api.Var{
	{Name: "x", Value: "5"}, {Name: "y", Value: "-3"}, {Name: "bad", Value: "5 "}, {Name: "o", Value: "0x10"},
	{Name: "big", Value: "9223372036854775808"}, {Name: "least", Value: "-9223372036854775808"}, {Name: "no", Value: ""},
}

// P10.1: all short texts of some things come to what the chapter's words say.
func TestShortTexts(t *testing.T) {
	for _, c := range []struct {
		things []string
		most   int
	}{
		{[]string{"x", "2", "(", ")", "+", "*", "="}, 6},
		{[]string{"u", "2", "?", ":", "=", "||"}, 6},
		{[]string{"x", "y", "&", "|", "=", "!", "0"}, 6},
		{[]string{"x", "1", "<", ">", "=", "-"}, 6},
		{[]string{"y", "0", "/", "%", "=", "~"}, 6},
		{[]string{"x", "bad", "^", "-", "/", "=", "0"}, 5},
		{[]string{"x", "3", "$", " ", ".", "_"}, 5},
		{[]string{"0", "8", "x", "a", "\t", "+"}, 5},
	} {
		signs := "ABCDEFGH"[:len(c.things)]
		var pairs []string
		for i, s := range c.things {
			pairs = append(pairs, signs[i:i+1], s)
		}
		spell := strings.NewReplacer(pairs...)
		for _, s := range short.Texts(signs, c.most) {
			checkPlainly(t, spell.Replace(s), modelVars)
		}
	}
}

// maker makes texts by the grammar, by chance, which is the same each time.
type maker struct {
	*rand.Rand
}

func (m maker) one(l ...string) string { return l[m.Intn(len(l))] }

func (m maker) name() string {
	return m.one("x", "y", "o", "no", "least", "u", "v", "$x", "bad", "big")
}

func (m maker) all(deep int) string {
	if m.Intn(4) == 0 {
		return m.name() + m.one("", " ") + m.one(strings.Fields("= += -= *= /= %= <<= >>= &= ^= |=")...) + m.all(deep)
	}
	return m.condition(deep)
}

func (m maker) condition(deep int) string {
	if deep > 0 && m.Intn(8) == 0 {
		return m.pairs(deep-1) + " ? " + m.all(deep-1) + " : " + m.condition(deep-1)
	}
	return m.pairs(deep)
}

func (m maker) pairs(deep int) string {
	s := m.part(deep)
	for range m.Intn(4) {
		level := strings.Fields(levels[m.Intn(len(levels))])
		s += m.one("", " ") + m.one(level...) + m.one(" ", "\n") + m.part(deep)
	}
	return s
}

func (m maker) part(deep int) string {
	switch m.Intn(6) {
	case 0, 1:
		return m.name()
	case 2:
		if deep > 0 {
			return "(" + m.all(deep-1) + ")"
		}
	case 3:
		if deep > 0 {
			return m.one("+", "-", "!", "~") + m.part(deep-1)
		}
	case 4:
		return m.one("9223372036854775807", "0x7fffffffffffffff", "4611686018427387904", "3037000500", "63", "64")
	}
	return strconv.Itoa(m.Intn(9))
}

// P10.1: texts made by the grammar come to what the chapter's words say; and so do those of them in which one thing is left out, or stands twice.
func TestMadeTexts(t *testing.T) {
	m := maker{rand.New(rand.NewSource(10))}
	good := 0
	for range 10000 {
		s := m.all(4)
		if len(s) > api.MaxText {
			continue
		}
		checkPlainly(t, s, modelVars)
		if _, _, e := Eval(s, modelVars); e == api.OK {
			good++
		}
		l, _ := cutPlainly(s)
		at := m.Intn(len(l))
		checkPlainly(t, strings.Join(slices.Delete(slices.Clone(l), at, at+1), " "), modelVars)
		checkPlainly(t, strings.Join(slices.Insert(slices.Clone(l), at, l[at]), " "), modelVars)
	}
	if good < 3000 {
		t.Error("only", good, "texts have no error")
	}
}
