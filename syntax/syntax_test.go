package syntax

import (
	"strings"
	"testing"

	"rehearsal/api"
)

// reading is a script with its lists.
type reading struct {
	s    string
	want []api.List
}

func checkReadings(t *testing.T, l []reading) {
	t.Helper()
	for _, c := range l {
		got, at, e := Parse(c.s)
		if show(got) != show(c.want) || at != 0 || e != api.OK {
			t.Errorf("Parse(%q) = %+v, %d, %d; want %+v", c.s, got, at, e, c.want)
		}
	}
}

// alike are scripts of the same lists.
type alike struct {
	scripts []string
	want    []api.List
}

func checkAlike(t *testing.T, l []alike) {
	t.Helper()
	for _, c := range l {
		for _, s := range c.scripts {
			checkReadings(t, []reading{{s, c.want}})
		}
	}
}

// P8.1: what stands between words and signs, and what doesn't.
func TestParseBetween(t *testing.T) {
	checkAlike(t, []alike{
		{[]string{"", " \t\\\n \\\n", "\n\n \n", "# a", "#", " # 'a`\n\n#$(\n", "#\\"}, nil},
		{[]string{"a", " \ta \t", "\\\na\\\n", "\n#x\n\n a\n\n", "a #b", "a;#b"}, each(simple("a"))},
		{[]string{"a;#b\nc", "a # b \\\nc", "a \\\n# b\nc", "a #'\nc"}, each(simple("a"), simple("c"))},
		{[]string{"a&&#b\nc", "a && # b ) \n # ' \n\n c"}, []api.List{list("&&", pipe(simple("a")), pipe(simple("c")))}},
		{[]string{"a b", "a\tb", "a \\\nb", "a\\\n b", "a \\\n\\\n\t\\\nb"}, each(simple("a", "b"))},
	})
	checkReadings(t, []reading{
		{"a\\\nb", each(simple("ab"))},
		{"a#b #c", each(simple("a#b"))},
		{"a\\\n#b", each(simple("a#b"))},
		{"a ''#b", each(words(of(lit("a")), of(quoted(lit("")), lit("#b"))))},
		{"a\\ b", each(words(of(lit("a"), quoted(lit(" ")), lit("b"))))},
		{"''", each(words(of(quoted(lit("")))))},
		{"\"\\\n\"", each(words(of(quoted(lit("")))))},
		{"a \"\\\n\" b", each(words(of(lit("a")), of(quoted(lit(""))), of(lit("b"))))},
		{"a\rb\vc\x00\xff", each(simple("a\rb\vc\x00\xff"))},
	})
}

// P8.1: lists and pipes.
func TestParseLists(t *testing.T) {
	a, b, c := simple("a"), simple("b"), simple("c")
	checkAlike(t, []alike{
		{[]string{"a;b", "a\nb", "a;\n\n#x\nb;", "a\n\nb\n\n", " a ; b ;# c", "a #c\nb"}, each(a, b)},
		{[]string{"a&&b||c", "a && b || c", "a&&\n\n#x\n b||\nc;"}, []api.List{list("&& ||", pipe(a), pipe(b), pipe(c))}},
		{[]string{"a|b|c", "a | b |\n\n#x\nc"}, []api.List{list("", pipe(a, b, c))}},
		{[]string{"! a", "!\\\n a", "!\ta"}, []api.List{list("", not(pipe(a)))}},
	})
	checkReadings(t, []reading{
		{"a||b|c\nc", []api.List{list("||", pipe(a), pipe(b, c)), list("", pipe(c))}},
		{"!(a)", []api.List{list("", not(pipe(sub(a))))}},
		{"! a|b && ! c || a", []api.List{list("&& ||", not(pipe(a, b)), not(pipe(c)), pipe(a))}},
		{"! ! a", []api.List{list("", not(pipe(simple("!", "a"))))}},
		{"a | ! b", []api.List{list("", pipe(a, simple("!", "b")))}},
		{"! 2>f", []api.List{list("", not(pipe(to(words(), redir(2, ">", lit("f"))))))}},
		{"a !", each(simple("a", "!"))}, {"!a", each(simple("!a"))}, {"'!'", each(words(of(quoted(lit("!")))))}, {">f !", each(to(simple("!"), redir(1, ">", lit("f"))))},
	})
}

// P8.1: assignments.
func TestParseAssigns(t *testing.T) {
	one := assign("x", lit("1"))
	name := strings.Repeat("n", 64)
	checkReadings(t, []reading{
		{"x=1", each(with(words(), one))},
		{"x=", each(with(words(), assign("x")))},
		{"x=''", each(with(words(), assign("x", quoted(lit("")))))},
		{"x=\"\\\n\"", each(with(words(), assign("x")))},
		{"x\\\n=\\\n1", each(with(words(), one))},
		{"x=1 _y2=a=b c x=1 d", each(with(simple("c", "x=1", "d"), one, assign("_y2", lit("a=b"))))},
		{"x=$y'z'w >f x=1", each(to(with(words(), assign("x", param("y"), quoted(lit("z")), lit("w")), one), redir(1, ">", lit("f"))))},
		{"x=a$y", each(with(words(), assign("x", lit("a"), param("y"))))},
		{"x=$(a)", each(with(words(), assign("x", command("a"))))},
		{"if=1 fi=2 !=3", each(with(simple("!=3"), assign("if", lit("1")), assign("fi", lit("2"))))},
		{name + "=1", each(with(words(), assign(name, lit("1"))))}, {name + "n=1", each(simple(name + "n=1"))},
		{"1=2", each(simple("1=2"))}, {"=1", each(simple("=1"))}, {"x+=1", each(simple("x+=1"))}, {"x-y=1", each(simple("x-y=1"))}, {"x", each(simple("x"))},
		{"x'='1", each(words(of(lit("x"), quoted(lit("=")), lit("1"))))}, {"x\\=1", each(words(of(lit("x"), quoted(lit("=")), lit("1"))))},
		{"'x'=1", each(words(of(quoted(lit("x")), lit("=1"))))}, {"''x=1", each(words(of(quoted(lit("")), lit("x=1"))))}, {"\"x=1\"", each(words(of(quoted(lit("x=1")))))},
		{"$x=1", each(words(of(param("x"), lit("=1"))))}, {"'a' x=1", each(words(of(quoted(lit("a"))), of(lit("x=1"))))},
	})
}

// P8.1: redirections, their numbers and signs.
func TestParseRedirs(t *testing.T) {
	f := redir(1, ">", lit("f"))
	checkReadings(t, []reading{
		{">f", each(to(words(), f))},
		{"a <b >c >>d <&e >&f", each(to(simple("a"), redir(0, "<", lit("b")), redir(1, ">", lit("c")), redir(1, ">>", lit("d")), redir(0, "<&", lit("e")), redir(1, ">&", lit("f"))))},
		{"a 9<b 2>c 0>>d 3<&4 2>&1", each(to(simple("a"), redir(9, "<", lit("b")), redir(2, ">", lit("c")), redir(0, ">>", lit("d")), redir(3, "<&", lit("4")), redir(2, ">&", lit("1"))))},
		{"<a b>f d", each(to(simple("b", "d"), redir(0, "<", lit("a")), f))},
		{"a2>f", each(to(simple("a2"), f))}, {"22>f", each(to(simple("22"), f))}, {"2 >f", each(to(simple("2"), f))}, {"2\\\n>f", each(to(simple("2"), f))},
		{"\\2>f", each(to(words(of(quoted(lit("2")))), f))}, {"''2>f", each(to(words(of(quoted(lit("")), lit("2"))), f))},
		{"2> \\\n\t'f'$x", each(to(words(), redir(2, ">", quoted(lit("f")), param("x"))))},
		{">2>f", each(to(words(), redir(1, ">", lit("2")), f))}, {">2 2>2", each(to(words(), redir(1, ">", lit("2")), redir(2, ">", lit("2"))))}, {">f2<g", each(to(words(), redir(1, ">", lit("f2")), redir(0, "<", lit("g"))))},
		{"a>''", each(to(simple("a"), redir(1, ">", quoted(lit("")))))}, {">\"\\\n\"", each(to(words(), redir(1, ">", quoted(lit("")))))},
		{">x=1 >fi", each(to(words(), redir(1, ">", lit("x=1")), redir(1, ">", lit("fi"))))},
	})
}

// P8.1: key words are such only where they may stand, and in one text that is not quoted.
func TestParseKeyWords(t *testing.T) {
	checkReadings(t, []reading{
		{"a if then fi } { ! in", each(simple("a", "if", "then", "fi", "}", "{", "!", "in"))},
		{">f fi", each(to(simple("fi"), redir(1, ">", lit("f"))))}, {"x=1 if", each(with(simple("if"), assign("x", lit("1"))))},
		{"'if' a; \\fi; \"}\"", each(words(of(quoted(lit("if"))), of(lit("a"))), words(of(quoted(lit("f")), lit("i"))), words(of(quoted(lit("}")))))},
		{"in; {a; }b; iff; fi2", each(simple("in"), simple("{a"), simple("}b"), simple("iff"), simple("fi2"))},
		{"{\\\n a; \\\n}", each(group(simple("a")))}, {"i\\\nf a;then b;f\\\ni", each(choice(simple("a"), simple("b")))},
		{"{ a }; }", each(group(simple("a", "}")))}, {"{ (a) }", each(group(sub(simple("a"))))}, {"{(a)}", each(group(sub(simple("a"))))},
	})
}

// P8.1: subshells, groups, ifs and loops.
func TestParseCompound(t *testing.T) {
	a, b, c, d := simple("a"), simple("b"), simple("c"), simple("d")
	f := redir(1, ">", lit("f"))
	checkAlike(t, []alike{
		{[]string{"(a)", "(\n\na\n)", "( a; )", "(\\\na;#x\n)"}, each(sub(a))},
		{[]string{"{ a; }", "{\na\n}", "{ #x\na; \n\n}"}, each(group(a))},
		{[]string{"if a; then b; else c; fi", "if a\nthen b\nelse c\nfi", "if\n\na\nthen\nb\n\n\nelse #x\nc;\nfi"}, each(choice(a, b, c))},
		{[]string{"while a; do b; done", "while\na\ndo\nb\ndone"}, each(loop(api.While, a, b))},
	})
	checkReadings(t, []reading{
		{"((a))", each(sub(sub(a)))}, {"(a;b)>f 2>&1|c", []api.List{list("", pipe(to(sub(a, b), f, redir(2, ">&", lit("1"))), c))}},
		{"{ a; b; } <f", each(to(group(a, b), redir(0, "<", lit("f"))))}, {"{ { a; } }", each(group(group(a)))}, {"{ >f b; }", each(group(to(b, f)))},
		{"if(a)then(b)else(c)fi", each(choice(sub(a), sub(b), sub(c)))}, {"if a; then b; fi >f && c", []api.List{list("&&", pipe(to(choice(a, b), f)), pipe(c))}},
		{"if a; then b; elif c; then d; fi>f", each(to(choice(a, b, choice(c, d)), f))},
		{"if a; then b; elif a; then b; elif c; then d; else a; fi|b", []api.List{list("", pipe(choice(a, b, choice(a, b, choice(c, d, a))), b))}},
		{"if a; then b; else if c; then d; fi; b; fi", each(choice(a, b, choice(c, d), b))},
		{"if if a; then b; fi; then c; fi", each(choice(choice(a, b), c))},
		{"until a;do b;done <f", each(to(loop(api.Until, a, b), redir(0, "<", lit("f"))))},
		{"while(a)do(b)done|c", []api.List{list("", pipe(loop(api.While, sub(a), sub(b)), c))}},
		{"while a&&b\nc; do d; done", []api.List{list("", pipe(api.Cmd{Kind: api.While, Cond: []api.List{list("&&", pipe(a), pipe(b)), list("", pipe(c))}, Body: each(d)}))}},
	})
}

// P8.1: fors.
func TestParseFor(t *testing.T) {
	a, d := simple("a"), simple("d")
	all := [][]api.Part{of(quoted(param("@")))}
	checkAlike(t, []alike{
		{[]string{"for x in a; do d; done", "for x in a\ndo d; done", "for x\n\n#r\nin a;\n\n#r\ndo d\ndone", "for x in a\n\n\ndo\nd\ndone"}, each(forIn("x", plain("a"), d))},
		{[]string{"for x in; do d; done", "for x in\ndo d; done", "for x\nin;do d;done"}, each(forIn("x", nil, d))},
		{[]string{"for x do a; done", "for x; do a; done", "for x\n\ndo a; done", "for x;\n\ndo a; done", "for x\n;\ndo a; done"}, each(forIn("x", all, a))},
	})
	checkReadings(t, []reading{
		{"for x in a 'b' $c x=1 2 do done; do d; done >f", each(to(forIn("x", [][]api.Part{of(lit("a")), of(quoted(lit("b"))), of(param("c")), of(lit("x=1")), of(lit("2")), of(lit("do")), of(lit("done"))}, d), redir(1, ">", lit("f"))))},
		{"for in in in do done; do a; done", each(forIn("in", plain("in", "do", "done"), a))}, {"for do do a; done", each(forIn("do", all, a))}, {"for f\\\nor in ''; do(a)done", each(forIn("for", [][]api.Part{of(quoted(lit("")))}, sub(a)))},
	})
}

// P8.1: cases.
func TestParseCase(t *testing.T) {
	b, c := simple("b"), simple("c")
	x := of(param("x"))
	checkAlike(t, []alike{
		{[]string{"case $x in esac", "case $x\n\n#r\nin\n\nesac"}, each(caseOf(x))},
		{[]string{"case $x in a) b;; esac", "case $x in (a) b;; esac", "case $x in a) b; esac", "case $x in a) b\nesac", "case $x in\na ) \n\nb\n;;\n\n esac", "case $x in ( a)b;;#r\nesac"}, each(caseOf(x, branch(plain("a"), b)))},
		{[]string{"case $x in a) esac", "case $x in a)\n\nesac", "case $x in a);;esac", "case $x in a)\n#r\n;;\nesac"}, each(caseOf(x, branch(plain("a"))))},
	})
	checkReadings(t, []reading{
		{"case $x in (a|'b'|*) b;c;; \n#r\n $x) c\n;; ?) esac >f", each(to(caseOf(x, branch([][]api.Part{of(lit("a")), of(quoted(lit("b"))), of(lit("*"))}, b, c), branch([][]api.Part{x}, c), branch(plain("?"))), redir(1, ">", lit("f"))))},
		{"case $x in a) (b) esac", each(caseOf(x, branch(plain("a"), sub(b))))},
		{"case $x in (esac) b;; a|esac) c;; if) esac", each(caseOf(x, branch(plain("esac"), b), branch(plain("a", "esac"), c), branch(plain("if"))))},
		{"case in in in) in;; x=1|2) esac", each(caseOf(of(lit("in")), branch(plain("in"), simple("in")), branch(plain("x=1", "2"))))},
		{"case '' in \"\") esac", each(caseOf(of(quoted(lit(""))), branch([][]api.Part{of(quoted(lit("")))})))},
		{"case esac in a) case $x in b) c; esac;; esac", each(caseOf(of(lit("esac")), branch(plain("a"), caseOf(x, branch(plain("b"), c)))))},
	})
}

// P8.1: functions.
func TestParseFunction(t *testing.T) {
	a, b := simple("a"), simple("b")
	name := strings.Repeat("n", 64)
	checkAlike(t, []alike{
		{[]string{"f() { a; }", "f(){ a; }", "f( \t)\n\n#r\n{ a; }", "f(\\\n)\\\n{ a; }", "f\\\n() { a; }"}, each(function("f", group(a)))},
	})
	checkReadings(t, []reading{
		{"f() { a; } >g | b", []api.List{list("", pipe(function("f", to(group(a), redir(1, ">", lit("g")))), b))}},
		{"f()(a)", each(function("f", sub(a)))}, {"! f() (a)", []api.List{list("", not(pipe(function("f", sub(a)))))}},
		{"in() if a; then b; fi; a", each(function("in", choice(a, b)), a)}, {"f() while a; do b; done", each(function("f", loop(api.While, a, b)))}, {"f() until a; do b; done", each(function("f", loop(api.Until, a, b)))},
		{"f() for x in; do a; done", each(function("f", forIn("x", nil, a)))}, {"_1() case x in esac", each(function("_1", caseOf(of(lit("x")))))}, {name + "() (a)", each(function(name, sub(a)))},
		{"f() { g() { a; } }", each(function("f", group(function("g", group(a)))))},
		// Only a Simple one may not begin with a key word that ends lists.
		{"a && fi() (b)", []api.List{list("&&", pipe(a), pipe(function("fi", sub(b))))}},
	})
}

// P8.1: the scripts in words may be any; what they are, words tell by their texts alone.
func TestParseCommands(t *testing.T) {
	checkReadings(t, []reading{
		{"$()", each(words(of(command(""))))}, {"$(\n# x\n)", each(words(of(command("\n# x\n"))))},
		{"a$(if a; then b; fi)\"$(c \"$(d;)\")\"", each(words(of(lit("a"), command("if a; then b; fi"), quoted(command("c \"$(d;)\"")))))},
		{"$((fi+(1)))", each(words(of(api.Part{Kind: api.Arith, Text: "fi+(1)"})))},
		{"'$(fi)' \\$fi", each(words(of(quoted(lit("$(fi)"))), of(quoted(lit("$")), lit("fi"))))},
		{"${x-$(case a in (b) c;; esac)}", each(words(of(api.Part{Kind: api.Param, Text: "x", Op: "-", Word: of(command("case a in (b) c;; esac"))})))},
	})
}

// P8.1: no list of an answer shares room with another one, nor with another answer.
func TestParseNew(t *testing.T) {
	const s = "x=1$y z=$w a 'b'c >f <g$h; for i in a b; do c; done; for i do d; done; a && b || c | d; case x in a|b) c;; d) esac; f() { a; } >b"
	l, _, _ := Parse(s)
	want := show(l)
	spoil(l)
	if got := show(l); got != want {
		t.Errorf("%s\nbecame\n%s", want, got)
	}
	l[0].Pipes[0].Cmds[0].Assigns[0].Word[0].Text = "2"
	l[2].Pipes[0].Cmds[0].Words[0][0].Text = "*"
	if again, _, _ := Parse(s); show(again) != want {
		t.Errorf("%s\nbecame\n%s", want, show(again))
	}
}

// spoil puts something into the spare room of every list.
func spoil(l []api.List) {
	_ = append(l, api.List{Ops: []string{"?"}})
	for _, x := range l {
		_ = append(x.Ops, "?")
		_ = append(x.Pipes, api.Pipe{Not: true})
		for _, p := range x.Pipes {
			_ = append(p.Cmds, api.Cmd{Name: "?"})
			for _, c := range p.Cmds {
				spoilCmd(c)
			}
		}
	}
}

func spoilCmd(c api.Cmd) {
	_ = append(c.Assigns, api.Assign{Name: "?"})
	_ = append(c.Redirs, api.Redir{Op: "?"})
	_ = append(c.Cases, api.Case{})
	spoilWords(c.Words)
	for _, x := range c.Assigns {
		spoilWords([][]api.Part{x.Word})
	}
	for _, x := range c.Redirs {
		spoilWords([][]api.Part{x.Word})
	}
	for _, x := range c.Cases {
		spoilWords(x.Patterns)
		spoil(x.Body)
	}
	spoil(c.Cond)
	spoil(c.Body)
	spoil(c.Other)
}

func spoilWords(l [][]api.Part) {
	_ = append(l, of(lit("?")))
	for _, w := range l {
		_ = append(w, lit("?"))
	}
}
