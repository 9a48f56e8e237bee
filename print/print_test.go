package print

import (
	"strings"
	"testing"

	"rehearsal/api"
	"rehearsal/syntax"
)

// parse is a script's lists.
func parse(t *testing.T, s string) []api.List {
	t.Helper()
	l, at, e := syntax.Parse(s)
	if e != api.OK {
		t.Fatalf("Parse(%q): %d, %d", s, at, e)
	}
	return l
}

// written is a script with what is printed of it.
type written struct{ s, want string }

func checkWritten(t *testing.T, l []written) {
	t.Helper()
	for _, c := range l {
		lists := parse(t, c.s)
		before := show(lists)
		got, e := Print(lists)
		if got != c.want || e != api.OK {
			t.Errorf("Print(%q) = %q, %d; want %q", c.s, got, e, c.want)
			continue
		}
		if again := parse(t, got); show(again) != before || show(lists) != before {
			t.Errorf("Print(%q) = %q, parsed as\n%s, not as\n%s", c.s, got, show(again), before)
		}
	}
}

// P9.2: the chapter's example, and lists, pipes and what stands between.
func TestPrintLists(t *testing.T) {
	checkWritten(t, []written{
		{"a>f&&b", "1>f a && b\n"},
		{"", ""}, {"\n#x\n", ""}, {"a", "a\n"}, {"a;b\n\nc;", "a\nb\nc\n"},
		{"a||b&&c||d", "a || b && c || d\n"}, {"a&&\nb;c", "a && b\nc\n"},
		{"a|b|\nc", "a | b | c\n"}, {"! a|b", "! a | b\n"}, {"! a&&! b|c||d", "! a && ! b | c || d\n"},
		{"! ! a", "! ! a\n"}, {"!\\\n(a)|b", "! (\na\n) | b\n"},
	})
}

// P9.2: Simple commands: redirections, assignments, words.
func TestPrintSimple(t *testing.T) {
	checkWritten(t, []written{
		{"a  b\tc", "a b c\n"}, {"x=1", "x=1\n"}, {"x= y=''", "x= y=''\n"}, {">f", "1>f\n"},
		{"x=1 a 2>g y=2 b <h", "2>g 0<h x=1 a y=2 b\n"}, {"x=1 y=2", "x=1 y=2\n"}, {"x=1 >f y=2", "1>f x=1 y=2\n"},
		{"a <b >c >>d <&e >&f", "0<b 1>c 1>>d 0<&e 1>&f a\n"}, {"9<b 0>c 3>>d 4<&5 2>&1", "9<b 0>c 3>>d 4<&5 2>&1\n"},
		{"> f", "1>f\n"}, {">'' \"\"", "1>'' ''\n"}, {"a2>f", "1>f a2\n"}, {"2 >f", "1>f 2\n"}, {">f if", "1>f if\n"}, {">f fi x=1", "1>f fi x=1\n"}, {">f !", "1>f !\n"},
		{`\if 'a b' "c$d" e\'`, `'i'f 'a b' 'c'"${d}" e''\'''` + "\n"}, {"$x ${#y} ${z:-a b}", "${x} ${#y} ${z:-a b}\n"},
		{"$(a;b ) \"$(c)\" $((1+(2))) x=$(d)", "$(a;b ) \"$(c)\" $((1+(2))) x=$(d)\n"}, {"x=$(a) y=\"$z\"w", "x=$(a) y=\"${z}\"w\n"},
		{"a x=1 >f", "1>f a x=1\n"}, {"'x'=1", "'x'=1\n"}, {"x\\=1", "x'='1\n"}, {"x=1=2", "x=1=2\n"}, {"x=#a #b", "x=#a\n"}, {"''#a", "''#a\n"}, {"'#a'", "'#a'\n"},
		{"a\\\nb", "ab\n"}, {"'a\nb'", "'a\nb'\n"}, {"f \\(\\)", "f '()'\n"}, {"in do2 {a }b", "in do2 {a }b\n"},
		{strings.Repeat("n", 65) + "=1", strings.Repeat("n", 65) + "=1\n"},
	})
}

// P9.2: the kinds of commands that are not Simple, with redirections behind them.
func TestPrintCompound(t *testing.T) {
	checkWritten(t, []written{
		{"{ a; }", "{\na\n}\n"}, {"{ a;b; }>f 2>&1", "{\na\nb\n} 1>f 2>&1\n"}, {"(a)", "(\na\n)\n"}, {"(a;b)<f|c", "(\na\nb\n) 0<f | c\n"},
		{"((a))&&{ (b) }", "(\n(\na\n)\n) && {\n(\nb\n)\n}\n"},
		{"if a;b; then c;d; fi", "if\na\nb\nthen\nc\nd\nfi\n"}, {"if a; then b; else c;d; fi <f", "if\na\nthen\nb\nelse\nc\nd\nfi 0<f\n"},
		{"if a; then b; elif c; then d; else e; fi >f", "if\na\nthen\nb\nelse\nif\nc\nthen\nd\nelse\ne\nfi\nfi 1>f\n"},
		{"if a; then b; else if c; then d; fi >f; fi", "if\na\nthen\nb\nelse\nif\nc\nthen\nd\nfi 1>f\nfi\n"},
		{"while a;b; do c;d; done >>f", "while\na\nb\ndo\nc\nd\ndone 1>>f\n"}, {"until a&&b; do c; done", "until\na && b\ndo\nc\ndone\n"},
		{"for x in a 'b' $c; do d;e; done <f", "for x in a 'b' ${c}\ndo\nd\ne\ndone 0<f\n"}, {"for x do a; done", "for x in \"${@}\"\ndo\na\ndone\n"}, {"for x in; do a; done", "for x in\ndo\na\ndone\n"}, {"for in in in do; do a; done", "for in in in do\ndo\na\ndone\n"},
		{"case a in esac >f", "case a in\nesac 1>f\n"}, {"case in in in) esac", "case in in\n(in)\n;;\nesac\n"},
		{"case \"$x\" in a|'b c'|*) d;e;; (esac) f; esac", "case \"${x}\" in\n(a|'b c'|*)\nd\ne\n;;\n(esac)\nf\n;;\nesac\n"},
		{"f() { a; }", "f() {\na\n}\n"}, {"f()(a;b)>g", "f() (\na\nb\n) 1>g\n"}, {"f() { a; }|b", "f() {\na\n} | b\n"}, {"! f()\n{ g() { a; } >h; }", "! f() {\ng() {\na\n} 1>h\n}\n"},
		{"f() case x in esac; f() if a; then b; fi", "f() case x in\nesac\nf() if\na\nthen\nb\nfi\n"}, {"a&&fi() { b; }", "a && fi() {\nb\n}\n"},
		{"{ a; } >'b\nc\n'", "{\na\n} 1>'b\nc\n'\n"}, {"f() { a; } >'\n'", "f() {\na\n} 1>'\n'\n"},
	})
}

// makers of lists that no script comes to.
func lit(s string) []api.Part { return []api.Part{{Kind: api.Lit, Text: s}} }

func of(l ...api.Cmd) []api.List {
	var all []api.List
	for _, c := range l {
		all = append(all, api.List{Pipes: []api.Pipe{{Cmds: []api.Cmd{c}}}})
	}
	return all
}

func simple(l ...string) api.Cmd {
	c := api.Cmd{Kind: api.Simple}
	for _, s := range l {
		c.Words = append(c.Words, lit(s))
	}
	return c
}

func to(c api.Cmd, l ...api.Redir) api.Cmd {
	c.Redirs = l
	return c
}

func given(l ...api.Assign) api.Cmd { return api.Cmd{Kind: api.Simple, Assigns: l} }

func checkWrong(t *testing.T, l ...[]api.List) {
	t.Helper()
	for _, x := range l {
		if s, e := Print(x); s != "" || e != api.ErrArg {
			t.Errorf("Print(%s) = %q, %d", show(x), s, e)
		}
	}
}

// P9.2: ErrArg where what would be written is parsed as something else, or not at all.
func TestPrintWrongSimple(t *testing.T) {
	f := lit("f")
	checkWrong(t,
		of(simple()), of(simple("")), of(simple("a", "")), of(simple("a b")), of(simple("a;b")), of(simple("a\nb")), of(simple("#a")), of(simple("a", "#")), of(simple("a'")), of(simple("a\\")), of(simple("`")),
		of(simple("x=1")), of(simple("fi")), of(simple("!", "a")), of(simple("if")), of(simple("}")), of(simple("{", "a")), of(simple("a", "(")), of(simple("f()", "{")),
		of(api.Cmd{Kind: api.Simple, Words: [][]api.Part{nil}}), of(api.Cmd{Kind: api.Simple, Words: [][]api.Part{lit("a"), {}}}), of(api.Cmd{Kind: api.Simple, Words: [][]api.Part{{{Kind: api.Lit, Text: "a"}, {Kind: api.Lit, Text: "b"}}}}),
		of(api.Cmd{Kind: api.Simple, Words: [][]api.Part{{{Kind: 5, Text: "a"}}}}), of(api.Cmd{Kind: api.Simple, Words: [][]api.Part{{{Kind: api.Command, Text: "fi"}}}}), of(api.Cmd{Kind: api.Simple, Words: [][]api.Part{{{Kind: api.Param, Text: "x", Op: "!"}}}}),
		of(given(api.Assign{})), of(given(api.Assign{Name: "1", Word: f})), of(given(api.Assign{Name: "x=1"})), of(given(api.Assign{Name: strings.Repeat("n", 65)})), of(given(api.Assign{Name: "x", Word: lit("")})), of(given(api.Assign{Name: "x", Word: lit("a b")})), of(given(api.Assign{Name: "fi x"})),
		of(to(simple(), api.Redir{Fd: 1, Op: ">"})), of(to(simple("a"), api.Redir{Fd: 1, Op: ">"})), of(to(simple(), api.Redir{Fd: 10, Op: ">", Word: f})), of(to(simple(), api.Redir{Fd: -1, Op: ">", Word: f})), of(to(simple(), api.Redir{Fd: 1, Word: f})), of(to(simple(), api.Redir{Fd: 1, Op: ">|", Word: f})), of(to(simple(), api.Redir{Fd: 1, Op: "> ", Word: f})), of(to(simple(), api.Redir{Fd: 1, Op: ">", Word: lit("&1")})), of(to(simple(), api.Redir{Fd: 1, Op: ">", Word: lit("#")})),
	)
}

// P9.2: ErrArg, likewise, of lists, pipes, kinds, names and what a command needs not.
func TestPrintWrong(t *testing.T) {
	a := of(simple("a"))
	pipe := a[0].Pipes[0]
	name := api.Cmd{Kind: api.Simple, Name: "x", Words: [][]api.Part{lit("a")}}
	other := api.Cmd{Kind: api.Group, Body: a, Other: a}
	checkWrong(t,
		[]api.List{{}}, append(of(simple("a")), api.List{}), []api.List{{Pipes: []api.Pipe{{}}}}, []api.List{{Pipes: []api.Pipe{{Not: true}}}}, []api.List{{Ops: []string{"&&"}}},
		[]api.List{{Pipes: []api.Pipe{pipe, pipe}}}, []api.List{{Pipes: []api.Pipe{pipe}, Ops: []string{"&&"}}}, []api.List{{Pipes: []api.Pipe{pipe, pipe}, Ops: []string{";"}}}, []api.List{{Pipes: []api.Pipe{pipe, pipe}, Ops: []string{"|"}}}, []api.List{{Pipes: []api.Pipe{pipe, pipe}, Ops: []string{""}}}, []api.List{{Pipes: []api.Pipe{pipe, pipe}, Ops: []string{"&& ||"}}}, []api.List{{Pipes: []api.Pipe{pipe, pipe}, Ops: []string{"&&", "&&"}}},
		[]api.List{{Pipes: []api.Pipe{{Cmds: []api.Cmd{simple("a"), {}}}}}}, of(api.Cmd{}), of(api.Cmd{Kind: 10, Body: a}), of(api.Cmd{Kind: -1}), of(name), of(other),
		of(api.Cmd{Kind: api.Group}), of(api.Cmd{Kind: api.Sub}), of(api.Cmd{Kind: api.Sub, Body: a, Words: [][]api.Part{lit("a")}}), of(api.Cmd{Kind: api.Group, Body: a, Cond: a}), of(api.Cmd{Kind: api.Group, Body: []api.List{{}}}),
		of(api.Cmd{Kind: api.If, Cond: a}), of(api.Cmd{Kind: api.If, Body: a}), of(api.Cmd{Kind: api.If, Cond: a, Body: a, Other: []api.List{{}}}), of(api.Cmd{Kind: api.While, Cond: a}), of(api.Cmd{Kind: api.Until, Body: a}), of(api.Cmd{Kind: api.While, Cond: a, Body: a, Other: a}),
		of(api.Cmd{Kind: api.For, Body: a}), of(api.Cmd{Kind: api.For, Name: "x"}), of(api.Cmd{Kind: api.For, Name: "1", Body: a}), of(api.Cmd{Kind: api.For, Name: "x in a;do b;done;for x", Body: a}), of(api.Cmd{Kind: api.For, Name: "x", Words: [][]api.Part{nil}, Body: a}),
		of(api.Cmd{Kind: api.CaseOf}), of(api.Cmd{Kind: api.CaseOf, Words: [][]api.Part{lit("a"), lit("b")}}), of(api.Cmd{Kind: api.CaseOf, Words: [][]api.Part{nil}}), of(api.Cmd{Kind: api.CaseOf, Words: [][]api.Part{lit("a")}, Cases: []api.Case{{}}}), of(api.Cmd{Kind: api.CaseOf, Words: [][]api.Part{lit("a")}, Cases: []api.Case{{Patterns: [][]api.Part{lit("a"), nil}}}}), of(api.Cmd{Kind: api.CaseOf, Words: [][]api.Part{lit("a")}, Cases: []api.Case{{Patterns: [][]api.Part{lit("a|b")}}}}), of(api.Cmd{Kind: api.CaseOf, Words: [][]api.Part{lit("a")}, Body: a}),
		of(api.Cmd{Kind: api.Function, Name: "f"}), of(api.Cmd{Kind: api.Function, Name: "f", Body: a}), of(api.Cmd{Kind: api.Function, Body: of(api.Cmd{Kind: api.Sub, Body: a})}), of(api.Cmd{Kind: api.Function, Name: "if", Body: of(api.Cmd{Kind: api.Sub, Body: a})}), of(api.Cmd{Kind: api.Function, Name: "fi", Body: of(api.Cmd{Kind: api.Sub, Body: a})}), of(api.Cmd{Kind: api.Function, Name: "f", Body: []api.List{{}, {}}}),
		of(api.Cmd{Kind: api.Function, Name: "f", Body: of(api.Cmd{Kind: api.Function, Name: "g", Body: of(api.Cmd{Kind: api.Sub, Body: a})})}),
		of(to(api.Cmd{Kind: api.Function, Name: "f", Body: of(api.Cmd{Kind: api.Sub, Body: a})}, api.Redir{Fd: 1, Op: ">", Word: lit("f")})), of(api.Cmd{Kind: api.Function, Name: "f", Body: append(of(api.Cmd{Kind: api.Sub, Body: a}), a...)}),
		of(to(api.Cmd{Kind: api.Sub, Body: a}, api.Redir{Fd: 11, Op: ">", Word: lit("f")})), of(to(api.Cmd{Kind: api.Sub, Body: a}, api.Redir{Fd: 1, Op: ">", Word: lit("f g")})),
	)
}
