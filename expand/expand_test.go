package expand

import (
	"fmt"
	"slices"
	"strings"
	"testing"

	"rehearsal/api"
	"rehearsal/match"
	"rehearsal/short"
	"rehearsal/vars"
	"rehearsal/word"
)

// stage is a host that writes down what it is asked: scripts tell what stands in runs, patterns find what stands in globs; a script in faults has an error; act is done ahead of each answer.
type stage struct {
	runs   map[string]string
	globs  map[string][]string
	faults map[string]api.Errno
	act    func(asked string)
	asked  []string
}

func (s *stage) ask(what string) {
	s.asked = append(s.asked, what)
	if s.act != nil {
		s.act(what)
	}
}

func (s *stage) Run(script string) (string, api.Errno) {
	s.ask("run " + script)
	return s.runs[script], s.faults[script]
}

func (s *stage) Glob(pattern string) []string {
	s.ask("glob " + pattern)
	return s.globs[pattern]
}

// scanned is the word that a text is.
func scanned(t *testing.T, s string) []api.Part {
	t.Helper()
	w, at, e := word.Scan(s, 0)
	if e != api.OK || at != len(s) {
		t.Fatal(s, at, e)
	}
	return w
}

// table is a table of variables (x=a b), and of parameters.
func table(t *testing.T, set []string, args ...string) *vars.Table {
	t.Helper()
	var l []api.Var
	for _, s := range set {
		name, value, _ := strings.Cut(s, "=")
		l = append(l, api.Var{Name: name, Value: value})
	}
	v, e := vars.New(l, args)
	if e != api.OK {
		t.Fatal(e)
	}
	return v
}

// shown are texts, each in brackets.
func shown(l []string) string {
	var b strings.Builder
	for _, s := range l {
		b.WriteString("[" + s + "]")
	}
	return b.String()
}

// fieldsOf checks what fields words come to, each word with a copy of a table and a host without files.
func fieldsOf(t *testing.T, v *vars.Table, rows map[string]string) {
	t.Helper()
	for s, want := range rows {
		got, e := Fields([][]api.Part{scanned(t, s)}, v.Copy(), &stage{})
		if e != api.OK || shown(got) != want {
			t.Errorf("%s: %s, %d; want %s", s, shown(got), e, want)
		}
	}
}

// textsOf checks what texts words come to, by Text or by Pattern, each word with a copy of a table.
func textsOf(t *testing.T, v *vars.Table, f func([]api.Part, *vars.Table, Host) (string, api.Errno), rows map[string]string) {
	t.Helper()
	for s, want := range rows {
		if got, e := f(scanned(t, s), v.Copy(), &stage{}); e != api.OK || got != want {
			t.Errorf("%s: %q, %d; want %q", s, got, e, want)
		}
	}
}

// faultsOf checks what errors words come to, each word with a copy of a table.
func faultsOf(t *testing.T, v *vars.Table, rows map[string]api.Errno) {
	t.Helper()
	for s, want := range rows {
		w := scanned(t, s)
		l, e := Fields([][]api.Part{w}, v.Copy(), &stage{})
		if e != want || len(l) > 0 {
			t.Errorf("Fields(%s): %q, %d; want %d", s, l, e, want)
		}
		for _, f := range []func([]api.Part, *vars.Table, Host) (string, api.Errno){Text, Pattern} {
			if s, e := f(w, v.Copy(), &stage{}); e != want || s != "" {
				t.Errorf("%s: %q, %d; want %d", s, s, e, want)
			}
		}
	}
}

// P13.1: the examples of the chapter.
func TestExample(t *testing.T) {
	fieldsOf(t, table(t, []string{"x=a b"}), map[string]string{`$x`: "[a][b]", `"$x"`: "[a b]", `${y:-c}`: "[c]"})
	fieldsOf(t, table(t, []string{"x=:a::b:", "IFS=:"}), map[string]string{`$x`: "[][a][][b]"})
}

// P13.1: what is no expansion is one field, itself; parts that stand side by side are joined.
func TestLit(t *testing.T) {
	fieldsOf(t, table(t, []string{"x=a b", "e="}), map[string]string{
		`a`: "[a]", `''`: "[]", `""`: "[]", `'a b'`: "[a b]", `\ `: "[ ]", `a'b'"c"`: "[abc]", `a''`: "[a]", `\\`: `[\]`, `'\'`: `[\]`, `$`: "[$]",
		`q$x`: "[qa][b]", `${x}q`: "[a][bq]", `'q '$x' q'`: "[q a][b q]", `$x$x`: "[a][ba][b]", `"$x"$x`: "[a ba][b]", `''$x''`: "[a][b]", `$e`: "", `"$e"`: "[]", `$e$e`: "", `''$e`: "[]", `$none`: "", `"$none"`: "[]",
	})
	// A text that is not quoted is not cut, but in braces; that of a part without bytes is nothing.
	for _, row := range []struct {
		w    []api.Part
		want string
	}{
		{[]api.Part{{Kind: api.Lit, Text: "a b\n"}}, "[a b\n]"},
		{[]api.Part{{Kind: api.Lit}}, ""},
		{[]api.Part{{Kind: api.Lit, Quoted: true}}, "[]"},
		{[]api.Part{{Kind: api.Param, Text: "none", Op: "-", Word: []api.Part{{Kind: api.Lit, Text: "a b\n"}}}}, "[a][b]"},
		{[]api.Part{{Kind: api.Param, Quoted: true, Text: "none", Op: "-", Word: []api.Part{{Kind: api.Lit, Text: "a b\n"}}}}, "[a][b]"},
		{[]api.Part{{Kind: api.Param, Text: "none", Op: "-", Word: []api.Part{{Kind: api.Lit, Quoted: true, Text: "a b\n"}}}}, "[a b\n]"},
		{[]api.Part{{Text: "a"}, {Kind: 5, Text: "b", Quoted: true}, {Kind: -1, Text: "c"}}, ""},
		{[]api.Part{{Kind: 5, Text: "~/"}, {Kind: api.Lit, Text: "x"}}, "[x]"},
		{nil, ""},
	} {
		if got, e := Fields([][]api.Part{row.w}, table(t, []string{"HOME=/h"}), &stage{}); e != api.OK || shown(got) != row.want {
			t.Errorf("%v: %s, %d; want %s", row.w, shown(got), e, row.want)
		}
	}
}

// P13.1: a ~ at the beginning, alone or ahead of a / , is HOME's value, quoted.
func TestTilde(t *testing.T) {
	v := table(t, []string{"HOME=/h *", "e=", "x=~"})
	fieldsOf(t, v, map[string]string{
		`~`: "[/h *]", `~/`: "[/h */]", `~/a`: "[/h */a]", `~/a'b c'$x`: "[/h */ab c~]", `~/~`: "[/h */~]", `~//`: "[/h *//]",
		`~a`: "[~a]", `~~`: "[~~]", `a~`: "[a~]", `a/~/b`: "[a/~/b]", `~''`: "[~]", `~$e`: "[~]", `$e~`: "[~]", `''~/a`: "[~/a]", `\~`: "[~]", `'~'/a`: "[~/a]", `"~"`: "[~]", `"~/a"`: "[~/a]", `~'/a'`: "[~/a]", `$x`: "[~]",
		`${n:-~}`: "[~]", `${n-~/a}`: "[~/a]", `${x+~}`: "[~]", `${x:+~/a}`: "[~/a]", `${n:=~}`: "[/h][*]", `${n=~/a}`: "[/h][*/a]", `"${n=~/a}"`: "[~/a]", `${n=a~}`: "[a~]", `${n=${n-~}}`: "[~]",
	})
	fieldsOf(t, table(t, []string{"HOME="}), map[string]string{`~`: "[]", `~/a`: "[/a]"})
	fieldsOf(t, table(t, nil), map[string]string{`~`: "[~]", `~/a`: "[~/a]"})
	// What stands behind the ~ is a pattern still, and HOME's value is not.
	h := &stage{}
	Fields([][]api.Part{scanned(t, "~/a*")}, v, h)
	if shown(h.asked) != `[glob /h \*/a*]` {
		t.Error(h.asked)
	}
	// ${y#~} is y without HOME's value at its beginning; and what is behind the ~ is one field, whatever IFS is.
	fieldsOf(t, table(t, []string{"HOME=/h *", "IFS=/"}), map[string]string{`~/a/b`: "[/h */a/b]", `${n=~/a}`: "[][h *][a]"})
	fieldsOf(t, table(t, []string{"HOME=/h *", "y=/h */a", "IFS="}), map[string]string{`${y#~}`: "[/a]", `${y%~/a}''`: "[]", `${y##${n-~}}`: "[/h */a]", `"${y#~}"`: "[/h */a]"})
}

// P13.1: a command puts what the host tells, without the newlines at its end.
func TestCommand(t *testing.T) {
	h := &stage{runs: map[string]string{"a": "x  y\n\nz\n\n", "n": "\n\n", "t": "x\n ", "": "e"}}
	for s, want := range map[string]string{
		`$(a)`: "[x][y][z]", `"$(a)"`: "[x  y\n\nz]", `"$(n)"`: "[]", `$(n)`: "", `$(none)`: "", `"$(none)"`: "[]", `"$(t)"`: "[x\n ]", `$(t)b`: "[x][b]", `$()`: "[e]", `${v:-$(a)}`: "[x][y][z]", `"${v:-$(a)}"`: "[x  y\n\nz]", `"${v=$(a)}"$v`: "[x  y\n\nzx][y][z]",
	} {
		if got, e := Fields([][]api.Part{scanned(t, s)}, table(t, nil), h); e != api.OK || shown(got) != want {
			t.Errorf("%s: %s, %d; want %s", s, shown(got), e, want)
		}
	}
	h = &stage{runs: map[string]string{"a": "x", "b": "x"}, faults: map[string]api.Errno{"b": api.ErrFuel}}
	v := table(t, nil)
	if l, e := Fields([][]api.Part{scanned(t, "${x=1}$(a)$(b)$(c)${y=1}"), scanned(t, "$(d)")}, v, h); e != api.ErrFuel || len(l) > 0 {
		t.Error(l, e)
	}
	if shown(h.asked) != "[run a][run b]" || len(v.Vars()) != 1 {
		t.Error(h.asked, v.Vars())
	}
}

// P13.1: the host is asked in order, word by word, and what it does to the table is seen behind it.
func TestOrder(t *testing.T) {
	v := table(t, []string{"x=1 2"}, "p")
	h := &stage{runs: map[string]string{"a": "A:B"}}
	h.act = func(asked string) {
		switch asked {
		case "run a":
			v.Status = 7
			v.Set("IFS", ":")
		case "glob 2":
			v.Set("x", "new")
			v.SetArgs(nil)
		}
	}
	got, e := Fields([][]api.Part{scanned(t, "$x"), scanned(t, "$?$(a)$?$x"), scanned(t, "$x$1"), scanned(t, `$(none)"$@"`)}, v, h)
	if e != api.OK || shown(got) != "[1][2][0A][B7new][new]" {
		t.Error(shown(got), e)
	}
	if shown(h.asked) != "[glob 1][glob 2][run a][glob 0A][glob B7new][glob new][run none]" {
		t.Error(h.asked)
	}
}

// P13.1: IFS is the one behind the word's expansion; a word is cut ahead of what the host finds.
func TestLateSeparators(t *testing.T) {
	fieldsOf(t, table(t, []string{"x=a:b c"}), map[string]string{`$x${IFS=:}`: "[a][b c]", `${IFS=b}$x`: "[][a:][ c]"})
	v := table(t, []string{"x=a:b c:d"})
	h := &stage{act: func(string) { v.Set("IFS", ":") }}
	if got, e := Fields([][]api.Part{scanned(t, "$x"), scanned(t, "$x")}, v, h); e != api.OK || shown(got) != "[a:b][c:d][a][b c][d]" {
		t.Error(shown(got), e)
	}
}

// P13.1: arithmetic puts its number, and sets the variables that changed.
func TestArith(t *testing.T) {
	v := table(t, []string{"x=5", "y=010"})
	for _, row := range []struct{ s, want, x, y, z string }{
		{`$((2*3))`, "[6]", "5", "010", ""},
		{`$((0-5))`, "[-5]", "5", "010", ""},
		{`$((x+y))`, "[15]", "5", "010", ""},
		{`$((x=7))$x`, "[77]", "7", "010", ""},
		{`$((y=y))`, "[10]", "5", "10", ""},
		{`$((z=x+=1))`, "[6]", "6", "010", "6"},
		{`"$((z=3))"`, "[3]", "5", "010", "3"},
		{`$(())`, "[0]", "5", "010", ""},
		{`${none-$((z=4))}`, "[4]", "5", "010", "4"},
		{`${x-$((z=4))}`, "[5]", "5", "010", ""},
	} {
		v := v.Copy()
		got, e := Fields([][]api.Part{scanned(t, row.s)}, v, &stage{})
		x, _ := v.Get("x")
		y, _ := v.Get("y")
		z, _ := v.Get("z")
		if e != api.OK || shown(got) != row.want || x != row.x || y != row.y || z != row.z {
			t.Errorf("%s: %s, %d; x %s, y %s, z %s", row.s, shown(got), e, x, y, z)
		}
	}
	fieldsOf(t, table(t, []string{"IFS=0"}), map[string]string{`$((10203))`: "[1][2][3]", `"$((102))"`: "[102]"})
	faultsOf(t, v, map[string]api.Errno{`$((1/0))`: api.ErrDivide, `$((1+))`: api.ErrSyntax, `$((09))`: api.ErrNumber, `$((1<<64))`: api.ErrRange})
	full := table(t, nil)
	for i := range api.MaxVars {
		full.Set(fmt.Sprint("v", i), "1")
	}
	faultsOf(t, full, map[string]api.Errno{`$((z=1))`: api.ErrLimit, `${z=1}`: api.ErrLimit})
	fieldsOf(t, full, map[string]string{`$((v0=2))$v0`: "[22]"})
}

// P13.1: what a Param puts, by its Op.
func TestOps(t *testing.T) {
	fieldsOf(t, table(t, []string{"x=a b", "e=", "p=a.b.c"}), map[string]string{
		`${x-c d}`: "[a][b]", `${e-c d}`: "", `"${e-c d}"`: "[]", `${n-c d}`: "[c][d]", `${n-'c d'}`: "[c d]", `"${n-c d}"`: "[c d]", `${n-}`: "", `"${n-}"`: "", `${n-""}`: "[]",
		`${x:-c}`: "[a][b]", `${e:-c d}`: "[c][d]", `${n:-c d}`: "[c][d]", `"${x:-c}"`: "[a b]", `${n:-a$x"$x"}`: "[aa][ba b]", `${n:-${m:-$x}}`: "[a][b]",
		`${x+c d}`: "[c][d]", `${e+c d}`: "[c][d]", `${n+c d}`: "", `"${n+c}"`: "", `${x:+c d}`: "[c][d]", `${e:+c d}`: "", `${n:+c}`: "", `"${x:+c d}"`: "[c d]", `${x:+"c d"}`: "[c d]", `a${n+c}b`: "[ab]",
		`${x?c}`: "[a][b]", `${e?c}`: "", `"${e?c}"`: "[]", `${x:?c}`: "[a][b]", `"${x:?}"`: "[a b]",
		`${x=c}$x`: "[a][ba][b]", `${e=c}`: "", `"${e=c}"`: "[]", `${e:=c d}$e`: "[c][dc][d]", `${n=c d}"$n"`: "[c][dc d]", `"${n:='c  d'}"$n`: "[c  dc][d]", `${n:=$x}$n`: "[a][ba][b]", `${n=}"$n"`: "[]",
		`${#x}`: "[3]", `${#e}`: "[0]", `${#n}`: "[0]", `"${#p}"`: "[5]",
		`${p#*.}`: "[b.c]", `${p##*.}`: "[c]", `${p%.*}`: "[a.b]", `${p%%.*}`: "[a]", `${p#"*."}`: "[a.b.c]", `${p#a.}`: "[b.c]", `${p%x}`: "[a.b.c]", `${p#}`: "[a.b.c]", `${p%%*}`: "", `${p##*}''`: "[]", `"${p##*}"`: "[a.b.c]", `${x%b}`: "[a]", `"${x%b}"`: "[a ]", `${n#*}`: "", `"${n%%*}"`: "[]", `${e#a}`: "",
		`${p#$e}`: "[a.b.c]", `${p#${n-*.}}`: "[b.c]", `${p#${n-'*.'}}`: "[a.b.c]", `${p#"${n-*.}"}`: "[a.b.c]", `${x#a b}`: "", `${x%%[!a]*}`: "[a]",
	})
}

// P13.1: Ops that no script has: a : ahead of what it plays no part in, and those that are none.
func TestOtherOps(t *testing.T) {
	lit := func(s string) []api.Part { return []api.Part{{Kind: api.Lit, Text: s}} }
	for _, row := range []struct {
		name, op, text, want string
	}{
		{"p", ":len", "", "[5]"}, {"e", ":len", "", "[0]"}, {"p", ":#", "*.", "[b.c]"}, {"p", ":##", "*.", "[c]"}, {"p", ":%", ".*", "[a.b]"}, {"p", ":%%", ".*", "[a]"}, {"e", ":#", "a", ""},
		{"p", ":", "x", "[a.b.c]"}, {"n", ":", "x", ""}, {"n", "::-", "x", ""}, {"n", "-:", "x", ""}, {"n", "x", "x", ""}, {"p", "###", "*.", "[a.b.c]"}, {"p", "#%", "*.", "[a.b.c]"}, {"n", "!", "x", ""}, {"p", "+-", "x", "[a.b.c]"}, {"n", "??", "x", ""},
		{"", "", "", ""}, {"", "-", "x", "[x]"}, {"a b", "-", "x", "[x]"}, {"a b", "+", "x", ""}, {"p ", "", "x", ""}, {"", "len", "x", "[0]"}, {"01", "", "", "[1]"}, {"-1", "-", "x", "[x]"},
	} {
		w := []api.Part{{Kind: api.Param, Text: row.name, Op: row.op, Word: lit(row.text)}}
		got, e := Fields([][]api.Part{w}, table(t, []string{"p=a.b.c", "e="}, "1"), &stage{})
		if e != api.OK || shown(got) != row.want {
			t.Errorf("%s %s: %s, %d; want %s", row.name, row.op, shown(got), e, row.want)
		}
	}
}

// P13.1: the errors of Params, and that their Words are expanded only where they count.
func TestParamFaults(t *testing.T) {
	most := "most=" + strings.Repeat("a", api.MaxData)
	faultsOf(t, table(t, []string{"x=a b", "e=", most}, "1"), map[string]api.Errno{
		`${n?}`: api.ErrUnset, `${n:?x}`: api.ErrUnset, `${e:?x}`: api.ErrUnset, `${9?}`: api.ErrUnset, `${n?$((1/0))}`: api.ErrUnset,
		`${9=x}`: api.ErrName, `${9:=$((1/0))}`: api.ErrName, `${@#x}`: api.ErrName, `${*##x}`: api.ErrName, `"${@%x}"`: api.ErrName, `${*%%$((1/0))}`: api.ErrName,
		`${n-$((1/0))}`: api.ErrDivide, `${x+$((1/0))}`: api.ErrDivide, `${n=$((1/0))}`: api.ErrDivide, `${x#$((1/0))}`: api.ErrDivide, `${n%$((1/0))}`: api.ErrDivide,
		`${n=a$most}`: api.ErrLimit, `${x#a$most}`: api.ErrLimit, `${x%${n=a$most}}`: api.ErrLimit, `${n?}$((1/0))`: api.ErrUnset, `$((1/0))${n?}`: api.ErrDivide, `${n=${m?}}`: api.ErrUnset,
	})
	fieldsOf(t, table(t, []string{"x=a", "e="}, "1"), map[string]string{
		`${x-$((1/0))}`: "[a]", `${e-$((1/0))}`: "", `${x:-$((1/0))}`: "[a]", `${n+$((1/0))}`: "", `${e:+$((1/0))}`: "", `${x=$((1/0))}`: "[a]", `${x?$((1/0))}`: "[a]", `${1=x}`: "[1]", `${@=x}`: "[1]", `${?:=x}`: "[0]",
	})
	faultsOf(t, table(t, nil), map[string]api.Errno{`${@=x}`: api.ErrName, `"${*:=x}"`: api.ErrName, `${@?}`: api.ErrUnset, `${*:?}`: api.ErrUnset, `${1=x}`: api.ErrName})
	faultsOf(t, table(t, nil, ""), map[string]api.Errno{`${@:=x}`: api.ErrName, `${*:?}`: api.ErrUnset})
	// A name by hand.
	w := []api.Part{{Kind: api.Param, Text: "a b", Op: "=", Word: []api.Part{{Kind: api.Command, Text: "c"}}}}
	h := &stage{}
	if _, e := Fields([][]api.Part{w}, table(t, nil), h); e != api.ErrName || len(h.asked) > 0 {
		t.Error(e, h.asked)
	}
}

// P13.1: a Param's value is the one ahead of its Word; what a Word sets stays, be it of use or not.
func TestValueAhead(t *testing.T) {
	v := table(t, []string{"x=15"})
	fieldsOf(t, v, map[string]string{`${x%$((x=5))}$x`: "[15]", `${n#${n=a}}$n`: "[a]", `${n=${n=a}b}$n`: "[abab]", `${n-${n=a}}$n`: "[aa]"})
	if _, e := Fields([][]api.Part{scanned(t, `${n=1}$((m=2))${x#$((x=3))}${k?}${l=4}`)}, v, &stage{}); e != api.ErrUnset {
		t.Error(e)
	}
	if l := v.Vars(); !slices.Equal(l, []api.Var{{Name: "m", Value: "2"}, {Name: "n", Value: "1"}, {Name: "x", Value: "3"}}) {
		t.Error(l)
	}
}

// P13.1: @ and * are the parameters, each a field by itself, but * where it is quoted.
func TestAll(t *testing.T) {
	v := table(t, nil, "1 2", "", "3")
	fieldsOf(t, v, map[string]string{
		`$@`: "[1][2][3]", `$*`: "[1][2][3]", `"$@"`: "[1 2][][3]", `"$*"`: "[1 2  3]", `a"$@"b`: "[a1 2][][3b]", `a$@b`: "[a1][2][3b]", `a$*b`: "[a1][2][3b]", `a"$*"b`: "[a1 2  3b]", `"a$@"`: "[a1 2][][3]", `"$@$@"`: "[1 2][][31 2][][3]",
		`${#@}`: "[3]", `${#*}`: "[3]", `"${#@}"`: "[3]", `$#`: "[3]", `${##}`: "[1]",
		`"${@-x}"`: "[1 2][][3]", `"${*-x}"`: "[1 2  3]", `${@:-x}`: "[1][2][3]", `"${@+x}"`: "[x]", `"${@?}"`: "[1 2][][3]", `"${@:=x}"`: "[1 2][][3]", `"${n-$@}"`: "[1 2][][3]", `${n-$@}`: "[1][2][3]", `"${n:-$*}"`: "[1 2  3]", `"${n=$@}"`: "[1 2  3]", `${1}`: "[1][2]", `"$1"`: "[1 2]", `$2`: "", `"$2"`: "[]",
	})
	fieldsOf(t, table(t, nil), map[string]string{
		`$@`: "", `"$@"`: "", `$*`: "", `"$*"`: "[]", `""$@`: "[]", `"$@"''`: "[]", `a"$@"b`: "[ab]", `"${@-x y}"`: "[x y]", `${*:-x y}`: "[x][y]", `${@+x}`: "", `${#@}`: "[0]", `$#`: "[0]",
	})
	fieldsOf(t, table(t, nil, ""), map[string]string{`$@`: "", `"$@"`: "[]", `"$*"`: "[]", `${@-x}`: "", `${@:-x}`: "[x]", `"${*:-x}"`: "[x]", `${@+x}`: "[x]", `${@:+x}`: ""})
	fieldsOf(t, table(t, nil, "", ""), map[string]string{`$@`: "", `"$@"`: "[][]", `"$*"`: "[ ]", `"${@:-x}"`: "[][]", `${@:+x}`: "[x]", `a$@b`: "[a][b]", `'a'"$@"b`: "[a][b]"})
}

// P13.1: * that is quoted is joined with the first byte of IFS as it is there.
func TestJoined(t *testing.T) {
	for ifs, want := range map[string]string{":": "[a:b c]", ": ": "[a:b c]", "xy": "[axb c]", "": "[ab c]", "\n": "[a\nb c]", "  ": "[a b c]"} {
		fieldsOf(t, table(t, []string{"IFS=" + ifs}, "a", "b c"), map[string]string{`"$*"`: want, `"${*}"`: want, `"$@"`: "[a][b c]"})
	}
	v := table(t, nil, "a", "b")
	fieldsOf(t, v, map[string]string{`"$*${IFS=:}$*"`: "[a b:a:b]", `"$*"${IFS=+}"$*"`: "[a b][a+b]"})
	textsOf(t, v, Text, map[string]string{`$*${IFS=:}$*`: "a b:a b", `"$*"${IFS=:}"$*"`: "a b:a:b", `$@`: "a b"})
	textsOf(t, table(t, []string{"IFS=:"}, "a", "", "b"), Text, map[string]string{`$*`: "a  b", `"$@"`: "a  b", `"$*"`: "a::b", `${n=$*}$n`: "a  ba  b", `${n="$*"}`: "a::b"})
}

// P13.1: what is split is cut at its separators.
func TestCutting(t *testing.T) {
	for _, row := range []struct{ ifs, x, want string }{
		{" \t\n", " a\t\nb  c ", "[a][b][c]"}, {" \t\n", " ", ""}, {" \t\n", "a\rb\v", "[a\rb\v]"}, {" ", "a\tb c", "[a\tb][c]"}, {"", " a b ", "[ a b ]"},
		{":", ":a::b:", "[][a][][b]"}, {":", ":", "[]"}, {":", "::", "[][]"}, {":", "a:", "[a]"}, {":", " a: b ", "[ a][ b ]"}, {":", "a", "[a]"}, {":", "", ""},
		{" \t\n", "a\tb\t", "[a][b]"}, {":\t", "a\t:b", "[a][b]"}, {": ", "a : b", "[a][b]"}, {": ", "a :: b", "[a][][b]"}, {": ", "a : : b", "[a][][b]"}, {": ", " : a", "[][a]"}, {": ", "a:  b", "[a][b]"}, {": ", "a: :b", "[a][][b]"}, {": ", "a :b: ", "[a][b]"}, {": ", "a : ", "[a]"}, {": ", " a : b :", "[a][b]"}, {": ", "a  :  :  : b", "[a][][][b]"},
		{":;", "a:;b", "[a][][b]"}, {":; ", "a ;: b", "[a][][b]"}, {"ab", "xaby", "[x][][y]"}, {"::", "a::b", "[a][][b]"},
		{"\x00", "a\x00b\x00\x00", "[a][b][]"}, {"\xff", "a\xffb\xc3\xbf", "[a][b\xc3\xbf]"}, {"\xc3\xbf", "a\xc3\xbfb", "[a][][b]"}, {"\\", `a\b`, "[a][b]"},
	} {
		fieldsOf(t, table(t, []string{"IFS=" + row.ifs, "x=" + row.x}), map[string]string{"$x": row.want, "${n-$x}": row.want, `"$x"`: "[" + row.x + "]"})
	}
	fieldsOf(t, table(t, []string{"x=a\tb\nc d:e"}), map[string]string{`$x`: "[a][b][c][d:e]"})
	fieldsOf(t, table(t, []string{"IFS=: ", "x= a ", "y=:b:", "z=:", "s= "}, "a ", ":b", "", ":"), map[string]string{
		`$x$y`: "[a][b]", `$y$x`: "[][b][a]", `''$y`: "[][b]", `$y''`: "[][b][]", `$x$z$y`: "[a][][b]", `$x"$z"$y`: "[a][:][b]", `$x''$y`: "[a][][b]", `$x$s$y`: "[a][b]", `a$s$z`: "[a]", `a$s$z$z`: "[a][]", `$z$s$z`: "[][]",
		`$@`: "[a][][b][]", `$*`: "[a][][b][]", `$1$2`: "[a][b]", `$s$@`: "[a][][b][]", `a$s"$@"`: "[a][a ][:b][][:]", `${n-a : b}`: "[a][b]", `${n-a' : 'b}`: "[a : b]", `${n:- }a`: "[a]", `${n:-:}a`: "[][a]", `:$z:`: "[:][:]",
	})
	fieldsOf(t, table(t, []string{"IFS=: "}, "a ", "", ":b"), map[string]string{`$@`: "[a][][b]", `$@$@`: "[a][][ba][][b]"})
}

// P13.1: each field is looked for as a pattern, what is quoted as itself; what finds nothing stays as a text.
func TestFound(t *testing.T) {
	h := &stage{globs: map[string][]string{"*.go": {"a.go", "b c.go"}, `\*.go`: {"none"}, "q": {"x", "", "x"}, "e": {}, "": {"empty"}}}
	v := table(t, []string{"g=*.go", `b=\*`, "l=q e *.go", "s= "})
	for s, want := range map[string]string{
		`*.go`: "[a.go][b c.go]", `$g`: "[a.go][b c.go]", `\*.go`: "[none]", `"$g"`: "[none]", `'*'.go`: "[none]", `$b.go`: "[none]", `"$b.go"`: `[\*.go]`, `*.c`: "[*.c]", `\*.c`: "[*.c]", `$b`: `[\*]`, `q`: "[x][][x]", `e`: "[e]", `$l`: "[x][][x][e][a.go][b c.go]", `"$l"`: "[q e *.go]", `''`: "[empty]", `$s`: "", `"$none"`: "[empty]",
	} {
		if got, e := Fields([][]api.Part{scanned(t, s)}, v.Copy(), h); e != api.OK || shown(got) != want {
			t.Errorf("%s: %s, %d; want %s", s, shown(got), e, want)
		}
	}
	h = &stage{}
	if _, e := Fields([][]api.Part{scanned(t, `a'*?[]!-\'b*"$g"$g'['$l`), scanned(t, `"a b"c`)}, v, h); e != api.OK {
		t.Error(e)
	}
	if want := `[glob a\*\?\[\]\!\-\\b*\*.go*.go\[q][glob e][glob *.go][glob a bc]`; shown(h.asked) != want {
		t.Error(shown(h.asked), want)
	}
}

// P13.1: more than 256 fields, or one of more than 4096 bytes, are too much behind the word that made them.
func TestLimits(t *testing.T) {
	most, over := strings.Repeat("a", api.MaxData), strings.Repeat("a", api.MaxData+1)
	many := make([]string, api.MaxFields)
	h := &stage{globs: map[string][]string{"m": many, "o": append(many, ""), "s": {over}, over: {"b"}, "n": {"1"}}}
	v := table(t, []string{"l=" + most}, many...)
	for s, want := range map[string]api.Errno{
		`"$@"`: api.OK, `"$@""$@"`: api.ErrLimit, `"$@" x`: api.ErrLimit, `"$@" $none`: api.OK, `x "$@"`: api.ErrLimit, `m`: api.OK, `o`: api.ErrLimit, `m n`: api.ErrLimit, `m ""`: api.ErrLimit, `"$l"`: api.OK, `$l `: api.OK, `${l}b`: api.ErrLimit, `'x'$l`: api.ErrLimit, `s`: api.ErrLimit,
		`n s $((1/0))`: api.ErrLimit, `n $((1/0)) s`: api.ErrDivide, `$l$((1/0))x`: api.ErrDivide, `${l}a`: api.OK, `${l}a ${n?}`: api.ErrUnset, `o ${n?}`: api.ErrLimit, `s$((1/0))`: api.ErrDivide,
	} {
		var words [][]api.Part
		for _, x := range strings.Fields(s) {
			words = append(words, scanned(t, x))
		}
		if l, e := Fields(words, v.Copy(), h); e != want || e != api.OK && l != nil {
			t.Errorf("%s: %d fields, %d; want %d", s, len(l), e, want)
		}
	}
	// All that was found of the word is asked for ahead.
	h = &stage{globs: map[string][]string{"1": append(many, "")}}
	if _, e := Fields([][]api.Part{scanned(t, "${n-1 2}"), scanned(t, "3")}, table(t, nil), h); e != api.ErrLimit || shown(h.asked) != "[glob 1][glob 2]" {
		t.Error(e, h.asked)
	}
}

// P13.1, P13.2: without a table, or a host, there is nothing to do it with.
func TestNil(t *testing.T) {
	v, h := table(t, nil), &stage{}
	w := scanned(t, "${x=1}$(c)")
	for _, row := range []struct {
		v *vars.Table
		h Host
	}{{nil, h}, {v, nil}, {nil, nil}, {&vars.Table{}, h}, {&vars.Table{Status: 1}, h}} {
		for _, words := range [][][]api.Part{nil, {w}} {
			if l, e := Fields(words, row.v, row.h); e != api.ErrNil || l != nil {
				t.Error(l, e)
			}
		}
		for _, w := range [][]api.Part{nil, w} {
			s, e := Text(w, row.v, row.h)
			p, e2 := Pattern(w, row.v, row.h)
			if e != api.ErrNil || e2 != api.ErrNil || s+p != "" {
				t.Error(s, e, p, e2)
			}
		}
	}
	if len(v.Vars()) > 0 || len(h.asked) > 0 {
		t.Error(v.Vars(), h.asked)
	}
	if l, e := Fields(nil, v, h); e != api.OK || len(l) > 0 {
		t.Error(l, e)
	}
}

// P13.2: a word's texts are joined, with blanks where fields end, and nothing is cut or found.
func TestText(t *testing.T) {
	v := table(t, []string{"x= a  b ", "HOME=/h *", "g=*", "e="}, "1 2", "", "*")
	textsOf(t, v, Text, map[string]string{
		``: "", `a`: "a", `''`: "", `a'b c'"d"`: "ab cd", `$x`: " a  b ", `"$x"`: " a  b ", `~`: "/h *", `~/$g`: "/h */*", `a~`: "a~", `$none`: "", `*'*'`: "**", `\*`: "*", `$@`: "1 2  *", `"$@"`: "1 2  *", `$*`: "1 2  *", `a"$@"b`: "a1 2  *b", `${n-a  b}`: "a  b", `${n=a  b}$n`: "a  ba  b", `$((1+1))$#`: "23", `${e:-~}`: "~", `${n:-$@}`: "1 2  *",
	})
	textsOf(t, v, Pattern, map[string]string{
		``: "", `a`: "a", `''`: "", `a'b c'"d"`: "ab cd", `$x'*'$g`: " a  b \\**", `"$g"`: `\*`, `~`: `/h \*`, `~/$g*`: `/h \*/**`, `\*`: `\*`, `'[!a-b]?\'`: `\[\!a\-b\]\?\\`, `[!a-b]?`: `[!a-b]?`, `$@`: "1 2  *", `"$@"`: `1 2  \*`, `"$*"`: `1 2  \*`, `${n-*'*'}`: `*\*`, `"${n-*}"`: `\*`, `${n=*'*'}`: `**`, `"${n=*'*'}"`: `\*\*`, `"$((0-1))"`: `\-1`, `$((0-1))`: `-1`, `$g'\'`: `*\\`,
	})
}

// P13.2: texts have at most 4096 bytes, patterns too, as they are written.
func TestTextLimits(t *testing.T) {
	l := strings.Repeat("a", api.MaxData-1)
	v := table(t, []string{"l=" + l, "s=" + strings.Repeat("*", api.MaxData/2)}, l, "")
	for s, want := range map[string][2]api.Errno{
		`${l}a`: {}, `${l}ab`: {api.ErrLimit, api.ErrLimit}, `${l}*`: {}, `${l}'*'`: {api.OK, api.ErrLimit}, `"$s"`: {}, `"$s"a`: {api.OK, api.ErrLimit}, `$s$s`: {}, `$s$s''`: {}, `"$s$s"`: {api.OK, api.ErrLimit}, `"$@"`: {}, `"$@"a`: {api.ErrLimit, api.ErrLimit}, `${l}bc$((1/0))`: {api.ErrDivide, api.ErrDivide},
	} {
		w := scanned(t, s)
		text, e := Text(w, v, &stage{})
		pattern, e2 := Pattern(w, v, &stage{})
		if e != want[0] || e2 != want[1] || e != api.OK && text != "" || e2 != api.OK && pattern != "" {
			t.Errorf("%s: %d bytes, %d; %d bytes, %d; want %d", s, len(text), e, len(pattern), e2, want)
		}
	}
}

// P13.3: what is quoted is one field, itself, whatever the separators are; and as a pattern it alone fits.
func TestQuoted(t *testing.T) {
	h := &stage{}
	for _, s := range short.Texts("a: *\\~'\n", 4) {
		v := table(t, []string{"IFS=: a", "x=" + s, "HOME=/h"}, s, "", s)
		for _, p := range []api.Part{{Kind: api.Lit, Text: s}, {Kind: api.Param, Text: "x"}, {Kind: api.Param, Text: "1", Op: ":?"}, {Kind: api.Param, Text: "n", Op: "=", Word: []api.Part{{Kind: api.Lit, Text: s, Quoted: true}}}} {
			if s == "" && p.Op == ":?" {
				continue
			}
			p.Quoted = true
			w := []api.Part{p}
			if l, e := Fields([][]api.Part{w, w}, v, h); e != api.OK || !slices.Equal(l, []string{s, s}) {
				t.Fatalf("%v: %q, %d", p, l, e)
			}
			if got, e := Text(w, v, h); e != api.OK || got != s {
				t.Fatalf("%v: %q, %d", p, got, e)
			}
			if got, e := Pattern(w, v, h); e != api.OK || got != match.Quote(s) || !match.Fits(got, s) {
				t.Fatalf("%v: %q, %d", p, got, e)
			}
		}
		if l, e := Fields([][]api.Part{scanned(t, `"$@"`)}, v, h); e != api.OK || !slices.Equal(l, v.Args()) {
			t.Fatalf("%q: %q, %d", v.Args(), l, e)
		}
	}
}

// P13.1: what is handed in stays as it is, its spare room included.
func TestHandedIn(t *testing.T) {
	words := [][]api.Part{scanned(t, "~/a${n=x}"), scanned(t, "*${n:-a b}")}
	spare := words[:1]
	found := make([]string, 2, 9)
	found[0], found[1] = "1", "2"
	h := &stage{globs: map[string][]string{"*x": found}}
	v := table(t, []string{"HOME=/h"})
	before := fmt.Sprint(words, found[:9])
	l, e := Fields(words, v, h)
	if e != api.OK || shown(l) != "[/h/ax][1][2]" {
		t.Error(l, e)
	}
	l[1] = "changed"
	_ = append(l, "more")
	if _, e := Fields(spare, v, h); e != api.OK || fmt.Sprint(words, found[:9]) != before {
		t.Error(e, words, found[:9])
	}
}

// P13.1: Words may stand within one another as deep as what a program is given may.
func TestDeep(t *testing.T) {
	for _, row := range []struct{ name, op, want string }{{"n", "-", "[a][b]"}, {"n", "=", "[a][b]"}, {"x", ":+", "[a][b]"}, {"x", "#", ""}} {
		w := []api.Part{{Kind: api.Lit, Text: "a b"}}
		for range 1 << 16 {
			w = []api.Part{{Kind: api.Param, Text: row.name, Op: row.op, Word: w}}
		}
		// With #, cd is cut off what the one within left: nothing off cd, then cd off cd, by turns.
		if l, e := Fields([][]api.Part{w}, table(t, []string{"x=cd"}), &stage{}); e != api.OK || shown(l) != row.want {
			t.Errorf("%s: %s, %d", row.op, shown(l), e)
		}
	}
}
