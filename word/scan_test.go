package word

import (
	"strings"
	"testing"

	"rehearsal/api"
	"rehearsal/short"
)

// reading is a text with the word that it begins with; of none the word goes to its end.
type reading struct {
	s    string
	want []api.Part
	next int
}

func checkReadings(t *testing.T, l []reading) {
	t.Helper()
	for _, c := range l {
		if c.next == 0 {
			c.next = len(c.s)
		}
		got, next, e := Scan(c.s, 0)
		if !Same(got, c.want) || next != c.next || e != api.OK {
			t.Errorf("Scan(%q) = %v, %d, %d; want %v, %d", c.s, got, next, e, c.want, c.next)
		}
	}
}

// of is a word.
func of(w ...api.Part) []api.Part { return w }

// P7.2: texts, and what quotes them.
func TestScanTexts(t *testing.T) {
	checkReadings(t, []reading{
		{"", nil, 0},
		{"abc", of(lit("abc")), 0},
		{"a=b{c}#~!%^*[]?-+.,:/@", of(lit("a=b{c}#~!%^*[]?-+.,:/@")), 0},
		{"\x00\xff\réa", of(lit("\x00\xff\réa")), 0},
		{`\a`, of(q(lit("a"))), 0},
		{`a\ b`, of(lit("a"), q(lit(" ")), lit("b")), 0},
		{`\;\'\"\\` + "\\`" + `\$\ `, of(q(lit(";'\"\\`$ "))), 0},
		{"a\\\nb", of(lit("ab")), 0},
		{"\\\n", nil, 0},
		{"'a'\\\n\\b", of(q(lit("ab"))), 0},
		{"''", of(q(lit(""))), 0},
		{"'a b'", of(q(lit("a b"))), 0},
		{"'\\'", of(q(lit("\\"))), 0},
		{"'\"$x`\n;'", of(q(lit("\"$x`\n;"))), 0},
		{"a'b'c", of(lit("a"), q(lit("b")), lit("c")), 0},
		{"a''b", of(lit("a"), q(lit("")), lit("b")), 0},
		{`'a'"b"\c`, of(q(lit("abc"))), 0},
		{`''"a"''`, of(q(lit("a"))), 0},
		{`""`, of(q(lit(""))), 0},
		{`""''`, of(q(lit(""))), 0},
		{`"a b"`, of(q(lit("a b"))), 0},
		{`"a;|&<>()` + "\t\n" + `#"`, of(q(lit("a;|&<>()\t\n#"))), 0},
		{`"'"`, of(q(lit("'"))), 0},
		{`"'a'"`, of(q(lit("'a'"))), 0},
		{`"\$\"\\` + "\\`" + `"`, of(q(lit("$\"\\`"))), 0},
		{`"\a\ \'\}"`, of(q(lit(`\a\ \'\}`))), 0},
		{"\"a\\\nb\"", of(q(lit("ab"))), 0},
		// Something stands between these two, which is nothing.
		{"\"\\\n\"", nil, 0},
		{"a\"\\\n\"b", of(lit("ab")), 0},
		{"\"\\\n\"''", of(q(lit(""))), 0},
		{`"$x"""`, of(q(param("x")), q(lit(""))), 0},
		{`""$x`, of(q(lit("")), param("x")), 0},
	})
}

// P7.2: a word ends at each byte that ends words, quoted ones left aside.
func TestScanEnds(t *testing.T) {
	for _, c := range strings.Split(" \t\n;&|<>()", "") {
		checkReadings(t, []reading{
			{"a" + c + "b", of(lit("a")), 1},
			{"'a'" + c, of(q(lit("a"))), 3},
			{"$$x" + c + "y", of(lit("$"), param("x")), 3},
			{"$x" + c + "'", of(param("x")), 2},
			{"\"a\"" + c + "`", of(q(lit("a"))), 3},
			{"\\\n" + c, nil, 2},
			{"'" + c + "'", of(q(lit(c))), 0},
			{"\"" + c + "\"", of(q(lit(c))), 0},
			{"${x-" + c + "}", of(with("x", "-", lit(c))), 0},
		})
		if l, next, e := Scan(c, 0); l != nil || next != 0 || e != api.OK {
			t.Errorf("Scan(%q) = %v, %d, %d", c, l, next, e)
		}
	}
}

// P7.2: what a $ begins, without braces.
func TestScanDollar(t *testing.T) {
	checkReadings(t, []reading{
		{"$x", of(param("x")), 0},
		{"$_a1-b", of(param("_a1"), lit("-b")), 0},
		{"$x$y", of(param("x"), param("y")), 0},
		{"$" + signs(64), of(param(signs(64))), 0},
		{"$12", of(param("1"), lit("2")), 0},
		{"$0$@$*$#$?", of(param("0"), param("@"), param("*"), param("#"), param("?")), 0},
		{"$@a$#{", of(param("@"), lit("a"), param("#"), lit("{")), 0},
		{"$", of(lit("$")), 0},
		{"a$", of(lit("a$")), 0},
		{"$$", of(lit("$$")), 0},
		{"$$x", of(lit("$"), param("x")), 0},
		{"$ x", of(lit("$")), 1},
		{"a$)", of(lit("a$")), 2},
		{"$-$!$}$%$=$:$é", of(lit("$-$!$}$%$=$:$é")), 0},
		{"$'x'", of(lit("$"), q(lit("x"))), 0},
		{`$"x"`, of(lit("$"), q(lit("x"))), 0},
		{`$\x`, of(lit("$"), q(lit("x"))), 0},
		{"$\\\nx", of(lit("$x")), 0},
		{`"$"`, of(q(lit("$"))), 0},
		{`"a$x b$"`, of(q(lit("a")), q(param("x")), q(lit(" b$"))), 0},
		{`"$1$@$'x'"`, of(q(param("1")), q(param("@")), q(lit("$'x'"))), 0},
		{`"\$x"`, of(q(lit("$x"))), 0},
		{`a'b c'"$x"${y:-z};`, of(lit("a"), q(lit("b c")), q(param("x")), with("y", ":-", lit("z"))), 17},
	})
}

// P7.2: braces, with all operations.
func TestScanBraces(t *testing.T) {
	checkReadings(t, []reading{
		{"${x}", of(param("x")), 0},
		{"${_a1}b", of(param("_a1"), lit("b")), 0},
		{"${12}", of(param("12")), 0},
		{"${0}${007}", of(param("0"), param("007")), 0},
		{"${@}${*}${#}${?}", of(param("@"), param("*"), param("#"), param("?")), 0},
		{"${" + signs(64) + "}", of(param(signs(64))), 0},
		{"${" + strings.Repeat("1", 64) + "}", of(param(strings.Repeat("1", 64))), 0},
		{"${#x}", of(with("x", "len")), 0},
		{"${#12}", of(with("12", "len")), 0},
		{"${#@}${#*}${##}${#?}", of(with("@", "len"), with("*", "len"), with("#", "len"), with("?", "len")), 0},
		{"${x#y}", of(with("x", "#", lit("y"))), 0},
		{"${x###}", of(with("x", "##", lit("#"))), 0},
		{"${x#%}", of(with("x", "#", lit("%"))), 0},
		{"${x%%%}", of(with("x", "%%", lit("%"))), 0},
		{"${x%\\%}", of(with("x", "%", q(lit("%")))), 0},
		{"${x%\\\n%}", of(with("x", "%", lit("%"))), 0},
		{"${x--}", of(with("x", "-", lit("-"))), 0},
		{"${x-:}", of(with("x", "-", lit(":"))), 0},
		{"${x:--}", of(with("x", ":-", lit("-"))), 0},
		{"${??}${?-a}", of(with("?", "?"), with("?", "-", lit("a"))), 0},
		{"${@-a}${*:=a}${1+a}", of(with("@", "-", lit("a")), with("*", ":=", lit("a")), with("1", "+", lit("a"))), 0},
		{`"${x}"`, of(q(param("x"))), 0},
		{`"${#x}"`, of(q(with("x", "len"))), 0},
	})
	for _, op := range []string{":-", ":=", ":?", ":+", "%%", "##", "-", "=", "?", "+", "%", "#"} {
		checkReadings(t, []reading{
			{"${x" + op + "}", of(with("x", op)), 0},
			{"${x" + op + "a b}c", of(with("x", op, lit("a b")), lit("c")), 0},
			{"\"${x" + op + "a}\"", of(q(with("x", op, q(lit("a"))))), 0},
		})
	}
}

// P7.2: what stands in braces: as in a word, but up to a } ; all quoted in what is quoted.
func TestScanWordOfBraces(t *testing.T) {
	checkReadings(t, []reading{
		{"${x-a;|&<>()\n\t }", of(with("x", "-", lit("a;|&<>()\n\t "))), 0},
		{`${x-\}}`, of(with("x", "-", q(lit("}")))), 0},
		{`${x-'}'"}"}`, of(with("x", "-", q(lit("}}")))), 0},
		{"${x-{}}", of(with("x", "-", lit("{")), lit("}")), 0},
		{"${x-$}", of(with("x", "-", lit("$"))), 0},
		{"${x-''}", of(with("x", "-", q(lit("")))), 0},
		{"${x-a\\\nb}", of(with("x", "-", lit("ab"))), 0},
		{"${x-a'b'\"$y\"}", of(with("x", "-", lit("a"), q(lit("b")), q(param("y")))), 0},
		{"${x-${y-${z}}}", of(with("x", "-", with("y", "-", param("z")))), 0},
		{"${x-$((1}))$(a})}", of(with("x", "-", sum("1}"), cmd("a}"))), 0},
		{`"${x-a'b'\c"d"$y}"`, of(q(with("x", "-", q(lit("abcd")), q(param("y"))))), 0},
		{`"${x-'}'\}"}"}"`, of(q(with("x", "-", q(lit("}}}"))))), 0},
		{`"${x-'a"b'}"`, of(q(with("x", "-", q(lit(`a"b`))))), 0},
		{`"${x-${y-z}$((1))$(a)}"`, of(q(with("x", "-", q(with("y", "-", q(lit("z")))), q(sum("1")), q(cmd("a"))))), 0},
		{`${x-"${y-z}"${y-z}}`, of(with("x", "-", q(with("y", "-", q(lit("z")))), with("y", "-", lit("z")))), 0},
		{`"${x-}"${x-""}`, of(q(with("x", "-")), with("x", "-", q(lit("")))), 0},
		{"\"${x-\"\\\n\"}\"", of(q(with("x", "-"))), 0},
		{"a${x-b}c", of(lit("a"), with("x", "-", lit("b")), lit("c")), 0},
	})
}

// P7.2: arithmetic and commands.
func TestScanArithCommand(t *testing.T) {
	checkReadings(t, []reading{
		{"$(())", of(sum("")), 0},
		{"$((1 + 2))", of(sum("1 + 2")), 0},
		{"$(((1)+(2)))", of(sum("(1)+(2)")), 0},
		{"$((((1)))))", of(sum("((1))")), 10},
		{"$((x<<1;$y|2}\t))a", of(sum("x<<1;$y|2}\t"), lit("a")), 0},
		{`"$((1))"`, of(q(sum("1"))), 0},
		{"$()", of(cmd("")), 0},
		{"$(echo a)b", of(cmd("echo a"), lit("b")), 0},
		{"$(a;(b);c\n)", of(cmd("a;(b);c\n")), 0},
		{"$( (a))", of(cmd(" (a)")), 0},
		{"$(a $(b))", of(cmd("a $(b)")), 0},
		{"$(a ')' \")\" \\))", of(cmd("a ')' \")\" \\)")), 0},
		{"$(`)", of(cmd("`")), 0},
		{"$(${x`)", of(cmd("${x`")), 0},
		{`"$(a ")" '"')"`, of(q(cmd(`a ")" '"'`))), 0},
	})
}

// P7.2: faults, and their places.
func TestScanFaults(t *testing.T) {
	deep := strings.Repeat("${x-", 16)
	for _, c := range []struct {
		s  string
		at int
		e  api.Errno
	}{
		{`\`, 0, api.ErrQuote}, {`a\`, 1, api.ErrQuote}, {`"a\`, 2, api.ErrQuote}, {`${x-\`, 4, api.ErrQuote}, {`"${x-a\`, 6, api.ErrQuote}, {`\\\`, 2, api.ErrQuote},
		{"'", 0, api.ErrQuote}, {"a'b", 1, api.ErrQuote}, {`'a\`, 0, api.ErrQuote}, {"''a'", 3, api.ErrQuote}, {"'`", 0, api.ErrQuote},
		{`"`, 0, api.ErrQuote}, {`x"a`, 1, api.ErrQuote}, {`"a'b'`, 0, api.ErrQuote}, {`"\"`, 0, api.ErrQuote}, {`"a$x`, 0, api.ErrQuote}, {"\"\\\n", 0, api.ErrQuote},
		{"${x", 0, api.ErrQuote}, {"a${x", 1, api.ErrQuote}, {"${#x", 0, api.ErrQuote}, {"${#", 0, api.ErrQuote}, {"${x:-", 0, api.ErrQuote}, {"${x-a;b", 0, api.ErrQuote}, {"${1", 0, api.ErrQuote}, {"${x-\\\n", 0, api.ErrQuote},
		{"$(", 0, api.ErrQuote}, {"$(a", 0, api.ErrQuote}, {"a$(a'b)", 1, api.ErrQuote}, {"$((1)", 4, api.ErrSyntax}, {"$((", 0, api.ErrQuote}, {"b$((1(2)", 1, api.ErrQuote}, {"$(a\\", 0, api.ErrQuote},
		// Of several without an end: the innermost.
		{`"${x`, 1, api.ErrQuote}, {`${x-"a`, 4, api.ErrQuote}, {"${x-'a", 4, api.ErrQuote}, {"${x-${y", 4, api.ErrQuote}, {`"a$(b"`, 2, api.ErrQuote}, {`"$((1`, 1, api.ErrQuote},
		{`"${x-"${y}`, 5, api.ErrQuote}, {`"${x-"${y}"`, 1, api.ErrQuote}, {`"${x-"${y}"}`, 0, api.ErrQuote},

		{"`", 0, api.ErrSyntax}, {"a`b`", 1, api.ErrSyntax}, {"\"a`b\"", 2, api.ErrSyntax}, {"${x-`}", 4, api.ErrSyntax}, {"\\``", 2, api.ErrSyntax}, {"\"a\\\\`", 4, api.ErrSyntax}, {"'`'`", 3, api.ErrSyntax},
		{"${}", 2, api.ErrSyntax}, {"${", 2, api.ErrSyntax}, {`a"${`, 4, api.ErrSyntax}, {"${-x}", 2, api.ErrSyntax}, {"${ x}", 2, api.ErrSyntax}, {"${\\\nx}", 2, api.ErrSyntax}, {"${'x'}", 2, api.ErrSyntax}, {"${$x}", 2, api.ErrSyntax}, {"${!}", 2, api.ErrSyntax}, {"${`", 2, api.ErrSyntax},
		{"${#-x}", 3, api.ErrSyntax}, {"${#:-x}", 3, api.ErrSyntax}, {"${# }", 3, api.ErrSyntax}, {"${##x}", 4, api.ErrSyntax}, {"${#x:-y}", 4, api.ErrSyntax}, {"${#x-y}", 4, api.ErrSyntax},
		{"${x!}", 3, api.ErrSyntax}, {"${x:}", 3, api.ErrSyntax}, {"${x:", 3, api.ErrSyntax}, {"${x y}", 3, api.ErrSyntax}, {"${1a}", 3, api.ErrSyntax}, {"${@@}", 3, api.ErrSyntax}, {"${x\\\n}", 3, api.ErrSyntax}, {"${x`", 3, api.ErrSyntax},
		{"$((1) ", 4, api.ErrSyntax}, {"$((1)x)", 4, api.ErrSyntax}, {"$((1'2))", 4, api.ErrSyntax}, {"$((\"))", 3, api.ErrSyntax}, {"$((\\))", 3, api.ErrSyntax}, {"$((`))", 3, api.ErrSyntax}, {"$((1\n))", 4, api.ErrSyntax}, {"$((a);(b))", 4, api.ErrSyntax}, {`"$((1"`, 5, api.ErrSyntax},
		{"$" + signs(65), 1, api.ErrSyntax}, {"a\"$" + signs(65) + "\"", 3, api.ErrSyntax}, {"${" + signs(65) + "}", 2, api.ErrSyntax}, {"${#" + signs(65) + "!", 3, api.ErrSyntax}, {"${" + strings.Repeat("0", 65) + "}", 2, api.ErrSyntax}, {"${x-$" + signs(65), 5, api.ErrSyntax},

		{deep + "${x}", 64, api.ErrDeep}, {deep + "a${", 65, api.ErrDeep}, {`"` + deep + `"${!`, 66, api.ErrDeep}, {deep + "${#x}", 64, api.ErrDeep}, {"${x}" + deep + "${x}", 68, api.ErrDeep},
		{deep, 60, api.ErrQuote}, {deep + "$x", 60, api.ErrQuote}, {deep + "'${x}'", 60, api.ErrQuote}, {deep + "$(${x})", 60, api.ErrQuote},

		// The first that is found counts.
		{"\"a`", 2, api.ErrSyntax}, {"'a`", 0, api.ErrQuote}, {"${!\\", 2, api.ErrSyntax}, {"${x-`${", 4, api.ErrSyntax}, {"$(a`", 0, api.ErrQuote}, {"${x-${!}", 6, api.ErrSyntax}, {"\"\\`` ", 3, api.ErrSyntax},
	} {
		l, at, e := Scan(c.s, 0)
		if e != c.e || at != c.at || l != nil {
			t.Errorf("Scan(%q) = %v, %d, %d; want %d, %d", c.s, l, at, e, c.at, c.e)
		}
		// The place is one of the whole text.
		if _, at, e := Scan("a;'"+c.s, 3); e != c.e || at != c.at+3 {
			t.Errorf("Scan(%q) behind three bytes: %d, %d; want %d, %d", c.s, at, e, c.at+3, c.e)
		}
	}
}

// P7.2: braces within one another, up to 16; those that stand side by side, or in a command, are not within.
func TestScanDeep(t *testing.T) {
	s := strings.Repeat("${x-", 16) + strings.Repeat("}", 16)
	checkReadings(t, []reading{
		{s, nested(16, "-"), 0},
		{s + s, append(nested(16, "-"), nested(16, "-")...), 0},
		{"$(${x-" + s + "})", of(cmd("${x-" + s + "}")), 0},
		{"$(())${x}" + s, append(of(sum(""), param("x")), nested(16, "-")...), 0},
	})
	if _, _, e := Scan(`"`+strings.Repeat(`${x-"`, 16)+strings.Repeat(`"}`, 16)+`"`, 0); e != api.OK {
		t.Error(e)
	}
}

// P7.2: a place that is none, and a text that is too long.
func TestScanArg(t *testing.T) {
	long := signs(api.MaxText)
	for _, c := range []struct {
		s  string
		at int
	}{
		{"", -1}, {"", 1}, {"a", -1}, {"a", 2}, {"a", 1 << 62}, {"a", -1 << 63}, {"'", 2}, {long + "x", 0}, {long + "x", 8193}, {long + "x", 8190}, {long, -1}, {long, 8193}, {long + "`", 0},
	} {
		if l, at, e := Scan(c.s, c.at); l != nil || at != 0 || e != api.ErrArg {
			t.Errorf("Scan of %d bytes from %d = %v, %d, %d", len(c.s), c.at, l, at, e)
		}
	}
	checkReadings(t, []reading{{long, of(lit(long)), 0}, {"'" + long[2:] + "'", of(q(lit(long[2:]))), 0}})
	for _, at := range []int{0, 1, 2, 5} {
		if l, next, e := Scan("ab  c", at); e != api.OK || !Same(l, map[int][]api.Part{0: of(lit("ab")), 1: of(lit("b"))}[at]) || next != max(at, 2) {
			t.Error(at, l, next, e)
		}
	}
}

// texts are short texts, and such within quotes and braces.
func texts() []string {
	l := append(short.Texts("${}x\"", 6), short.Texts("$()'\"a", 5)...)
	l = append(l, short.Texts("${}\"'\\\n`#x:-%(1@ ", 3)...)
	some := append(short.Texts("${}\"'\\\nx#", 4), short.Texts("$()'\"\\` ;%-:", 3)...)
	for _, s := range some {
		for _, around := range []string{"\"\x00\"", "${x:-\x00}", "\"${x%\x00}\"", "${x-\"\x00\"}", "${\x00}", "$((\x00))", "$(\x00)", "a\x00", "$\x00\""} {
			l = append(l, strings.Replace(around, "\x00", s, 1))
		}
	}
	return l
}

// P7.2: short texts, by the document's words, byte by byte.
func TestScanShort(t *testing.T) {
	for _, s := range texts() {
		got, next, e := Scan(s, 0)
		want, n, x := scanPlainly(s, 0)
		if !Same(got, want) || next != n || e != x {
			t.Fatalf("Scan(%q) = %v, %d, %d; want %v, %d, %d", s, got, next, e, want, n, x)
		}
	}
}

// P7.2: what stands ahead of the place, and behind the word, plays no part.
func TestScanPlace(t *testing.T) {
	for _, s := range short.Texts("${}\"'\\x ;#", 4) {
		l, next, e := Scan(s, 0)
		if e == api.OK {
			if again, n, e := Scan(s[:next], 0); !Same(l, again) || n != next || e != api.OK {
				t.Errorf("Scan(%q) = %v, %d, %d; want %v", s[:next], again, n, e, l)
			}
		}
		for _, ahead := range []string{"'", "\"${x ", "a`\\"} {
			if again, n, x := Scan(ahead+s, len(ahead)); !Same(l, again) || n != next+len(ahead) || x != e {
				t.Errorf("Scan(%q, %d) = %v, %d, %d; want %v", ahead+s, len(ahead), again, n, x, l)
			}
		}
	}
}

// P7.2: no list of an answer shares room with another one.
func TestScanNew(t *testing.T) {
	const s = "${x-a$y'b'}${z-c$w}d"
	l, _, _ := Scan(s, 0)
	keep := clone(l)
	_ = append(l[0].Word, lit("e"))
	_ = append(l[:2], lit("f"))
	again, _, _ := Scan(s, 0)
	l[1].Word[0].Text = "g"
	if !Same(again, keep) || !Same(l[0].Word, keep[0].Word) {
		t.Error(l, again)
	}
}
