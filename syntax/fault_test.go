package syntax

import (
	"strings"
	"testing"

	"rehearsal/api"
)

// checkFaults holds scripts against a fault: each has a § ahead of the fault's place.
func checkFaults(t *testing.T, want api.Errno, marked ...string) {
	t.Helper()
	for _, m := range marked {
		ahead, behind, _ := strings.Cut(m, "§")
		if l, at, e := Parse(ahead + behind); l != nil || at != len(ahead) || e != want {
			t.Errorf("Parse(%q) = %+v, %d, %d; want %d, %d", ahead+behind, l, at, e, len(ahead), want)
		}
	}
}

// P8.1: where something lacks at the text's end, that is told.
func TestParseEnd(t *testing.T) {
	for _, s := range []string{
		"a |", "a&&", "a || ", "a |\n\n", "a && # b", "!", "! ", "a | b &&", "a | #\\\n",
		"(", "(\n", "(a", "(a;", "(a)|", "{", "{ a", "{ a;", "{ a; }>", "{ a }", "((a)",
		"if", "if a", "if a;", "if a; then", "if a; then b", "if a; then b;", "if a; then b; else", "if a; then b; else c", "if a; then b; elif", "if a; then b; elif c;", "if a; then b; elif c; then d;", "if a; then b; elif c; then d; else e\n", "if a then",
		"while", "while a", "while a; do", "while a; do b;", "until", "until a\n", "until a; do", "until a; do b; ",
		"for", "for ", "for x", "for x\n", "for x;", "for x;\n\n", "for x in", "for x in a", "for x in a ", "for x in a;", "for x in a\n", "for x in a; do", "for x in a; do b", "for x do b;",
		"case", "case x", "case x\n", "case x in", "case x in\n\n", "case x in (", "case x in a", "case x in a|", "case x in a)", "case x in a)\n", "case x in a) b", "case x in a) b;", "case x in a) b;;", "case x in a) b;;\n", "case x in a) b;; c",
		"f(", "f( ", "f()", "f()\n\n", "f() (", "f() { a;", "f() if", "f() (a) <",
		">", "a >", "2>", "a <& ", ">>\\\n", "x=1 >&", "> #f", ">#f\\",
	} {
		checkFaults(t, api.ErrEnd, s+"§")
	}
	// A newline that may not stand there is something that stands.
	checkFaults(t, api.ErrSyntax, "!§\n", "for§\n", "case§\n", "case x in (§\n", "f(§\n", ">§\n", ">#f§\n")
}

// P8.1: a key word that ends lists may not stand where a command must.
func TestParseEnding(t *testing.T) {
	for _, key := range []string{"then", "else", "elif", "fi", "do", "done", "esac", "}", "f\\\ni"} {
		checkFaults(t, api.ErrSyntax, "§"+key, "\n# x\n\t§"+key+" a", "a; §"+key, "a\n§"+key+">f", "(a)§"+key, "a && §"+key, "a ||\n§"+key, "a | §"+key+" b", "! §"+key, "(§"+key+")", "f() §"+key, "§"+key+"()(a)", "a;§"+key+"()(a)")
	}
}

// P8.1: where something stands that may not, its place is told: in lists and in what is simple.
func TestParseSyntax(t *testing.T) {
	checkFaults(t, api.ErrSyntax,
		"§)", "a§)", "§;", "§;;", "a§;;", "a§;;;", "a; §;", "a; §;;", "a\n§;", "§&", "a §&", "a§&b", "a&&§&b", "a|§&b", "a||§|b", "a||§&&b", "§|a", "§&&a", "a;§|b", "a\n§&&b", "a ||\n\n§;b", "a | §)", "a;§&",
		"! §;", "! §| a", "! §&& a", "! §)", "(! §)",
		"a §(b)", "a §()", "a b§()", "x=1§(", "x=1 f§()", ">g f§()(a)", "'f'§()(a)", "1f§()(a)", "f-§()(a)", "$f§()(a)", "f §()(a)", "f \\\n§()(a)", strings.Repeat("n", 65)+"§()(a)", "a>f§(", "!a§()(b)",
		"> §>f", ">§;", ">§|f", "<§<f", ">>§>f", ">>§&f", ">&§&", ">&§>f", "<§>f", "<§(a)", "2>&§\n1", ">2 >&§)",
	)
}

// P8.1: so in subshells, groups, ifs and loops, and behind them.
func TestParseSyntaxCompound(t *testing.T) {
	checkFaults(t, api.ErrSyntax,
		"(§)", "(§;)", "(\n§)", "(a§;;)", "(a;§})", "(a) §b", "(a) §'b'", "(a) §(b)", "(a) §x=1", "(a) >f §b", "(a) §2 >f", "(a)\\\n§fi", "(a) §!", "(a) §{", "(a)§f()(b)", "(a) §&", "(a§&)",
		"{ §}", "{ §;}", "{ a; §)", "{ a; } §}", "{ a; } §b", "{ a; }; §}", "{ a; §fi", "{ a; }§;;", "{ (a) §b; }", "{(§) { a; }",
		"if a; then\n§fi", "if§; then b; fi", "if §then", "if a; §fi", "if a; §do", "if (a) §b", "if a; then b; §done", "if a; then b; else §fi", "if a; then b; else c; §else d; fi", "if a; then b; else c; §elif d; fi", "if a; then b; elif c; §fi", "if a; then b; elif §then", "if a; then b; fi §fi", "if a; then b; §then c; fi", "if a; §)", "if a§;; then b; fi", "if a §& then",
		"while a; §done", "while §do a; done", "while a; do §done", "while a; do b; §fi", "until a; §then b; done", "until a; do b; done §c", "while§;", "until a; do b; §)",
	)
}

// P8.1: so in fors, cases and functions, and behind them.
func TestParseSyntaxNamed(t *testing.T) {
	checkFaults(t, api.ErrSyntax,
		"for §'x' in a", "for §$x in a", "for §x=1 in a", "for §1 in a", "for §2>f", "for §;", "for §(", "for§()(a)", "for §"+strings.Repeat("n", 65)+" do",
		"for x §y", "for x §'in' a", "for x;\n§in a", "for x§;;do", "for x; §;do", "for x §>f do", "for x §& do", "for x§()",
		"for x in a\n§;do b; done", "for x in a §>f; do", "for x in a 2§>f; do", "for x in §(a)", "for x in a§)", "for x in a§;;", "for x in a§|", "for x in a§&&", "for x in a do b; §done", "for x in a; §b", "for x in a; do §done", "for x in a; do b; §}", "for x do§;",
		"case §; in", "case §(x) in", "case §>f in", "case 2§>f in", "case x §y in", "case x§; in", "case x §'in'", "case x in§; a) b;; esac", "case x in §)", "case x in §|a)",
		"case x in a §b)", "case x in a|§)", "case x in a§||b)", "case x in a|§\nb)", "case x in a§\n)", "case x in (a §b)", "case x in (§(a))", "case x in a§>f)", "case x in 2§>f)", "case x in (§)",
		"case x in a) b;;§;;", "case x in a)§;b", "case x in a) §fi", "case x in a) §)", "case x in a) b; §fi", "case x in a) b;; §;", "case x in a) b§) esac", "case x in esac§)", "case x in a) b;; esac §c", "case x in a) b §& esac", "case x in a) (b) §c esac", "case x in a) (b) §fi",
		"f() §a", "f() §'a'", "f() §>g", "f() §2>g { a; }", "f() §g() { a; }", "f() §! { a; }", "f() §;", "f() §)", "f() §x=1 { a; }", "f(§a) { b; }", "f(§( a )", "f(§;", "f(§2>g", "f() { a; } §b", "f() §{a; }", "f()§&", "a && if(§) b",
	)
}

// P8.1: where a word may stand, its fault is told as chapter 7 tells it.
func TestParseWordFaults(t *testing.T) {
	for _, ahead := range []string{"", "a ", "a; ", "! ", "a |\n", "x=1 y=", "> ", "2>&", ">f ", "(", "{ ", "if a; then ", "for x in a ", "case ", "case x in ", "case x in (", "case x in a|", "case x in a)\n", "case x in a) b;; ", "f() { ", "f() (a) >", "fi' '"} {
		checkFaults(t, api.ErrQuote, ahead+"§'b", ahead+"b§\"c", ahead+"§\\", ahead+"§${x-", ahead+"§$((1", ahead+"b\"§$(", ahead+"b§$(c")
		checkFaults(t, api.ErrSyntax, ahead+"b§`", ahead+"${x§!}", ahead+"${§}", ahead+"$((1§'))", ahead+"$§"+strings.Repeat("n", 65))
		checkFaults(t, api.ErrEnd, ahead+"${§", ahead+"b\"${§")
		deep := strings.Repeat("${x-", 16)
		checkFaults(t, api.ErrDeep, ahead+deep+"§${x}", ahead+deep+"b§${")
		// It has no other one.
		checkFaults(t, api.ErrQuote, ahead+"$(fi)§'", ahead+"$(a|)b§\"")
		checkFaults(t, api.ErrSyntax, ahead+"$(a|)§`")
	}
}

// P8.1: where a key word, a For's name or a Function's body must stand, or no word may, one with a fault is just one that may not stand there.
func TestParseNoWord(t *testing.T) {
	for _, ahead := range []string{"(a) ", "{ a; } ", "{ a; }>f ", "{ (a) ", "if (a) ", "if a; then (b) ", "while (a) ", "for ", "for x ", "for x\n", "for x; ", "for x in a; ", "for x in a\n", "case x ", "case x\n", "case x in a ", "case x in a|b", "case x in a) (b) ", "f() ", "f()\n", "f(", "f() { a; } "} {
		if strings.HasSuffix(ahead, "b") {
			ahead += " "
		}
		for _, w := range []string{"'b", "b\"c", "\\", "${x-", "$(", "b`", "${x!}", "${", "$(fi)", "$(a|)", "${x-$(a|)}", strings.Repeat("${x-", 17)} {
			checkFaults(t, api.ErrSyntax, ahead+"§"+w)
		}
	}
}

// P8.1: the fault of a Command's script is told at the place of the word that it is in.
func TestParseCommandFaults(t *testing.T) {
	checkFaults(t, api.ErrSyntax, "echo §$(fi)", "§$(;)", "a; §b\"c$(fi)\"", "§x=$(fi)", ">§$(a;;)", "a >f >&  §$(a b`)", "§${x-${y:-a$(})}}", "§$(a `)", "(§$(a&))", "{ a; } >§$(})", "for x in a §$(fi); do", "case §$(fi) in", "case x in a|§$(fi))", "case x in a) §$(fi)", "if a; then b; fi <§\"$(fi)\"", "f() { §$(fi); }", "f() (a) <§$(fi)", "§$(a $(fi))", "§$(a $(b $(fi)))", "§$()$(fi)$(a|)", "a=1 §b=$(fi)$(a|) c=$(a|)")
	checkFaults(t, api.ErrEnd, "§$(a|)", "a §$(if a)", "§$(a $(b &&))", "§$(${)", "a §$(b\n c >)", "§$(a|)$(fi)", "§$(case x in a) b;; esac)")
	checkFaults(t, api.ErrQuote, "§$(\\ a${x-)", "a §b$(c \"${x-\")")
	checkFaults(t, api.ErrDeep, "a §$( "+strings.Repeat("(", 15)+"a"+strings.Repeat(")", 15)+")", "§$(a"+strings.Repeat("${x-", 17)+strings.Repeat("}", 17)+")")
	// It is found when its word is: behind what stands ahead, and ahead of what stands behind.
	checkFaults(t, api.ErrSyntax, "a§& $(b|)", "§fi $(b|)", "(a) §$(b|)")
	checkFaults(t, api.ErrEnd, "§$(b|) &", "a §$(b|) 'c")
	checkFaults(t, api.ErrQuote, "§'a $(fi)", "$(a)§\"$(fi)")
}
