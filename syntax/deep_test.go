package syntax

import (
	"strings"
	"testing"

	"rehearsal/api"
)

// in is a text within some subshells.
func in(n int, s string) string { return strings.Repeat("(", n) + s + strings.Repeat(")", n) }

func checkParsed(t *testing.T, scripts ...string) {
	t.Helper()
	for _, s := range scripts {
		if _, at, e := Parse(s); at != 0 || e != api.OK {
			t.Errorf("Parse(%q): %d, %d", s, at, e)
		}
	}
}

// checkDeep holds it that scripts may stand within so many subshells, and within one more not: there they have a fault, at the § .
func checkDeep(t *testing.T, most int, marked ...string) {
	t.Helper()
	for _, m := range marked {
		s := strings.ReplaceAll(m, "§", "")
		checkParsed(t, in(most, s), in(most, s)+";"+in(most, s), "if a; then b; fi; "+in(most, s+"\n"+s))
		checkFaults(t, api.ErrDeep, in(most+1, m), in(most, s)+"\n"+in(most+1, m), "a|"+strings.Repeat("(", most+1)+m)
	}
}

// P8.1: lists within 16 others, and no deeper ones. They begin right behind the word or sign ahead of them.
func TestParseDeepLists(t *testing.T) {
	checkDeep(t, 15, "(§ a)", "(§\na)", "{§ a; }", "{§\n#x\na; }", "if§ a; then b; fi", "while§\na; do b; done", "until§ a; do b; done", "for x do§ a; done", "for x in a\ndo§\na\ndone", "case x in a)§ b;; esac", "case x in a)\n#x\n§ b; esac", "case x in a) ;; (b)§ a; esac", "a && ! {§ b; }", "x=1 | (§a) >f")
	checkParsed(t, in(16, "a"), in(16, "case x in a)\n;; b) esac"), in(16, "a && b | c; d"), in(15, "if a; then b; else c; fi"))
	// What is too deep is no more read.
	checkFaults(t, api.ErrDeep, strings.Repeat("(", 17)+"§", strings.Repeat("(", 17)+"§ 'b", strings.Repeat("(", 17)+"§)", strings.Repeat("{ ", 16)+"{§ }", strings.Repeat("(", 17)+"§"+strings.Repeat("(", 8000))
	checkFaults(t, api.ErrSyntax, strings.Repeat("(", 16)+"§)", "a; §;"+in(17, "a"), in(16, "case x in a) §fi"))
}

// P8.1: an elif counts, and its lists.
func TestParseDeepElif(t *testing.T) {
	checkDeep(t, 14, "if a; then b; elif§ c; then d; fi", "if a; then b; else (§c); fi", "if a; then b; else if§ c; then d; fi; fi")
	checkDeep(t, 13, "if a; then b; elif c; then d; elif§ a; then b; fi", "if a; then b; elif (§a); then b; fi", "if a; then b; elif a; then b; else (§a); fi")
	elifs := "if a; then b" + strings.Repeat("; elif c; then d", 15)
	checkParsed(t, elifs+"; fi", elifs+"; else a; fi")
	checkFaults(t, api.ErrDeep, elifs+"; elif§ c; then d; fi", elifs+"; else (§a); fi")
}

// P8.1: a function's body counts, and its lists; the body begins with its first sign, or word.
func TestParseDeepFunction(t *testing.T) {
	checkDeep(t, 14, "f() {§ a; }", "f() (§a)", "f() for x do§ a; done", "f() case x in a)§ b; esac")
	checkDeep(t, 15, "f() §case x in esac", "f()\n#x\n §case x in a) esac")
	checkFaults(t, api.ErrDeep, strings.Repeat("(", 16)+"f() §{ a; }", strings.Repeat("f() { ", 8)+"f() §{ a; }", strings.Repeat("(", 15)+"f() if§ a")
	checkParsed(t, strings.Repeat("f() (", 8)+"a"+strings.Repeat(")", 8))
}

// P8.1: a Command's script counts, and its lists; and so what it is in.
func TestParseDeepCommand(t *testing.T) {
	checkDeep(t, 14, "§$(a)", "b §c\"${x-$(a)}\"", "§x=$(a;b)", "b >§$(a)", "for x in §$(a); do b; done", "case §$(a) in esac", "case x in a|§$(a)) b; esac", "(b) >§$(a)", "§$(\na) $()", "if b; then b; fi >§$(a)")
	checkDeep(t, 13, "(§$(a))", "f() case §$(a) in esac", "f() (a) >§$(b)", "if a; then b; else §$(c); fi", "§$(f() case x in esac)")
	checkDeep(t, 12, "f() (§$(a))", "if a; then b; elif §$(c); then d; fi", "§$(a $(b))", "§$(f() (a))")
	checkParsed(t, in(16, "$()"), in(16, "$(\n# a\n)"), strings.Repeat("$(", 8)+"a"+strings.Repeat(")", 8))
	checkFaults(t, api.ErrDeep, "a §"+strings.Repeat("$(", 9)+"a"+strings.Repeat(")", 9), "a §"+strings.Repeat("$(", 1000)+"a"+strings.Repeat(")", 1000))
}

// P8.1: a text may have 8192 bytes; of a longer one nothing is told.
func TestParseLimit(t *testing.T) {
	s := strings.Repeat("a;", api.MaxText/2)
	if l, at, e := Parse(s); len(l) != api.MaxText/2 || at != 0 || e != api.OK {
		t.Error(len(l), at, e)
	}
	for _, s := range []string{s + "\n", s + ";", "fi" + s, strings.Repeat(" ", api.MaxText+1), strings.Repeat("(", 1<<20)} {
		if l, at, e := Parse(s); l != nil || at != 0 || e != api.ErrLimit {
			t.Error(len(s), l, at, e)
		}
	}
	checkFaults(t, api.ErrSyntax, s[:api.MaxText-1]+"§&")
	checkFaults(t, api.ErrEnd, s[2:]+"a|§")
}

// P8.1: it ends soon, whatever is nested in what.
func TestParseSoon(t *testing.T) {
	inner := strings.Repeat("a $(b) ${x-$(c)};", 400)
	for _, s := range []string{
		strings.Repeat("$(", 7) + inner + strings.Repeat(")", 7),
		strings.Repeat("$(a ", 8) + strings.Repeat("a;", 3000) + strings.Repeat(")", 8),
		strings.Repeat("${x-", 16) + strings.Repeat("$(a)", 2000) + strings.Repeat("}", 16),
		"a" + strings.Repeat(" ", 8000) + ";b", "a" + strings.Repeat("\\\n", 4000) + "&& b", strings.Repeat("a\n", 4000), "a;" + strings.Repeat("\n", 8000), strings.Repeat("a|", 4000) + "b", strings.Repeat("#\n", 4000),
		strings.Repeat("x=$(a) ", 1100), strings.Repeat(">$(a) ", 1300), "case x in" + strings.Repeat(" a);;", 1500) + " esac",
	} {
		checkParsed(t, s)
	}
}
