package word

import (
	"slices"
	"strings"
	"testing"

	"rehearsal/api"
)

// P7.3: how each part is written.
func TestPrint(t *testing.T) {
	for _, c := range []struct {
		w    []api.Part
		want string
	}{
		{nil, ""},
		{of(lit("abc")), "abc"},
		{of(lit("a$")), "a$"},
		{of(lit("#{}=~\x00\xff")), "#{}=~\x00\xff"},
		{of(q(lit(""))), "''"},
		{of(q(lit("a b"))), "'a b'"},
		{of(q(lit("'"))), `''\'''`},
		{of(q(lit("a'b''c"))), `'a'\''b'\'''\''c'`},
		{of(q(lit("\\\n`$x\""))), "'\\\n`$x\"'"},
		{of(lit("a"), q(lit("b")), lit("c")), "a'b'c"},
		{of(lit("$"), q(lit("x"))), "$'x'"},
		{of(param("x")), "${x}"},
		{of(param("x"), lit("y")), "${x}y"},
		{of(q(param("x"))), `"${x}"`},
		{of(q(param("x")), q(param("y")), q(lit(""))), `"${x}""${y}"''`},
		{of(lit("$"), param("x")), "$${x}"},
		{of(param("12"), param("@"), param("#"), param("?")), "${12}${@}${#}${?}"},
		{of(with("x", "len"), q(with("#", "len"))), `${#x}"${##}"`},
		{of(with("x", ":-", lit("a b"), q(lit("}")))), "${x:-a b'}'}"},
		{of(with("x", "%", q(lit("%")))), "${x%'%'}"},
		{of(with("x", "=")), "${x=}"},
		{of(q(with("x", ":-", q(lit("a")), q(with("y", "+", q(lit("b"))))))), `"${x:-'a'"${y+'b'}"}"`},
		{of(with("x", "-", q(param("y")), cmd("z"))), `${x-"${y}"$(z)}`},
		{of(cmd("")), "$()"},
		{of(cmd("a ')';(b)"), q(cmd(`c "d"`))), `$(a ')';(b))"$(c "d")"`},
		{of(sum("")), "$(())"},
		{of(sum("1+(2)"), q(sum("x"))), `$((1+(2)))"$((x))"`},
		{of(lit(signs(8192))), signs(8192)},
		{of(q(lit(signs(8190)))), "'" + signs(8190) + "'"},
		{nested(16, "-"), strings.Repeat("${x-", 16) + strings.Repeat("}", 16)},
	} {
		keep := clone(c.w)
		s, e := Print(c.w)
		if s != c.want || e != api.OK {
			t.Errorf("Print(%v) = %q, %d; want %q", c.w, s, e, c.want)
		}
		if !Same(c.w, keep) {
			t.Errorf("Print made %v of %v", c.w, keep)
		}
	}
}

// P7.3: what isn't so scanned.
func TestPrintArg(t *testing.T) {
	for _, w := range [][]api.Part{
		{lit("")}, {lit("a b")}, {lit(";")}, {lit("a'")}, {lit("'a'")}, {lit(`"`)}, {lit(`\`)}, {lit(`\a`)}, {lit("`")}, {lit("$x")}, {lit("${x}")}, {lit("$("), lit(")")}, {lit("\\\n")}, {lit("a)")}, {lit("a\n")},
		{lit("a"), lit("b")}, {q(lit("a")), q(lit("b"))}, {lit("a"), lit(""), q(lit("b"))}, {q(lit("")), q(lit(""))}, {lit("a"), lit("b c")},
		{param("")}, {param("a-b")}, {param("1a")}, {param("!")}, {param("@@")}, {param("#x")}, {param("x}")}, {param("x:-y")}, {param(signs(65))}, {param("x'")}, {param("a b")}, {param("$")},
		{with("x", "!")}, {with("x", ":")}, {with("x", "", lit("-a"))}, {with("x", "", lit("a"))}, {with("", "#", lit("x"))}, {with("#", ":-", lit("a"))}, {with("#", "-")}, {with("x", "len", lit("a"))}, {with("", "len")}, {with("x", "%", lit("%"))}, {with("x", "#", lit("#a"))}, {with("x", ":-a")}, {with("x", "---")},
		{with("x", "-", lit("}"))}, {with("x", "-", lit("'"))}, {with("x", "-", lit(""))}, {with("x", "-", lit("a"), lit("b"))}, {with("x", "-", lit("$y"))}, {with("x", "-", param("!"))},
		{q(with("x", "-", lit("a")))}, {q(with("x", "-", q(with("y", "-", lit("a")))))}, {q(with("x", "-", param("y")))},
		{cmd(")")}, {cmd("(")}, {cmd("'")}, {cmd(`"`)}, {cmd(`\`)}, {cmd("(a)")}, {cmd("a)b")}, {with("x", "-", cmd(")"))},
		{sum(")")}, {sum("(")}, {sum("'")}, {sum("1\n")}, {sum("`")}, {sum(`\`)}, {sum(`"`)}, {sum("1))+((2")},
		{{}}, {{Kind: 5, Text: "a"}}, {{Kind: -1}}, {lit("a"), {}}, {{Kind: api.Lit, Text: "a", Op: "-"}}, {{Kind: api.Lit, Text: "a", Word: of(lit("b"))}}, {{Kind: api.Command, Text: "a", Op: "len"}}, {{Kind: api.Arith, Word: of(lit("1"))}}, {with("x", "-", api.Part{})},
		{lit(signs(8193))}, {q(lit(signs(8191)))}, {q(lit(strings.Repeat("'", 2048)))}, slices.Repeat(of(param("x")), 2049), {with("x", "-", lit(signs(8188)))},
		nested(17, "-"), nested(1<<16, "-"), nested(1<<16, ""), nested(1<<16, "len"), {with("x", "-", nested(16, "-")...)},
	} {
		if s, e := Print(w); s != "" || e != api.ErrArg {
			t.Errorf("Print(%.300v) = %q, %d", w, s, e)
		}
	}
}

// P7.3: it ends soon, though what is handed in comes to more than could ever be written: each word stands in the next one twice.
func TestPrintSoon(t *testing.T) {
	for _, op := range []string{"-", "", "len"} {
		w := of(param("x"))
		for range 1000 {
			w = of(with("x", op, w...), with("x", op, w...))
		}
		if s, e := Print(w); s != "" || e != api.ErrArg {
			t.Errorf("%d bytes, %d", len(s), e)
		}
	}
}

// P7.4: what is scanned is printed, and scanned as it was; but a \ with a newline may stand in the way. What is printed is scanned as it was.
func TestPrintScanned(t *testing.T) {
	for _, s := range texts() {
		w, _, e := Scan(s, 0)
		if e != api.OK {
			continue
		}
		keep := clone(w)
		p, e := Print(w)
		if e != api.OK {
			if p != "" || e != api.ErrArg || !strings.Contains(s, "\\\n") {
				t.Fatalf("Print of Scan(%q) = %q, %d", s, p, e)
			}
			continue
		}
		again, next, e := Scan(p, 0)
		if !Same(again, keep) || next != len(p) || e != api.OK {
			t.Fatalf("Scan(%q) = %v, %d, %d; want %v", p, again, next, e, keep)
		}
		if !Same(w, keep) {
			t.Fatalf("Print made %v of %v", w, keep)
		}
	}
}

// P7.4: what stood apart stands side by side then, and so can't be printed.
func TestPrintJoined(t *testing.T) {
	for _, s := range []string{"$\\\nx", "$\\\n{x}", "\"$\\\nx\"$\\\n1", "${x%\\\n%}", "${x-$\\\ny}", "$\"\\\n\"x"} {
		w, _, e := Scan(s, 0)
		if e != api.OK {
			t.Errorf("Scan(%q): %d", s, e)
		}
		if p, e := Print(w); p != "" || e != api.ErrArg {
			t.Errorf("Print of Scan(%q) = %q, %d", s, p, e)
		}
	}
	// Printed in braces, a parameter is one more.
	w, _, e := Scan(strings.Repeat("${x-", 16)+"$y"+strings.Repeat("}", 16), 0)
	if e != api.OK {
		t.Error(e)
	}
	if p, e := Print(w); p != "" || e != api.ErrArg {
		t.Error(p, e)
	}
}

// smallParts are parts of all kinds, such as are read and such as are not.
func smallParts(words [][]api.Part) []api.Part {
	var l []api.Part
	for _, s := range []string{"", "x", "#", "$", "'", "}", "%", "("} {
		for kind := range 6 {
			l = append(l, api.Part{Kind: kind, Text: s})
		}
		for _, op := range []string{"len", "-", "%", "##", "!"} {
			for _, w := range words {
				l = append(l, with(s, op, w...))
			}
		}
	}
	for _, p := range slices.Clone(l) {
		l = append(l, q(p))
	}
	return l
}

// writePlainly is how a word is written, by the document's words.
func writePlainly(w []api.Part) string {
	s := ""
	for _, p := range w {
		x := ""
		switch {
		case p.Kind == api.Lit && p.Quoted:
			s += "'" + strings.Join(strings.Split(p.Text, "'"), `'\''`) + "'"
			continue
		case p.Kind == api.Lit:
			s += p.Text
			continue
		case p.Kind == api.Param && p.Op == "len":
			x = "${#" + p.Text + "}"
		case p.Kind == api.Param:
			x = "${" + p.Text + p.Op + writePlainly(p.Word) + "}"
		case p.Kind == api.Command:
			x = "$(" + p.Text + ")"
		case p.Kind == api.Arith:
			x = "$((" + p.Text + "))"
		}
		if p.Quoted {
			x = `"` + x + `"`
		}
		s += x
	}
	return s
}

// P7.3: small words made by hand are printed just if what is written is scanned as they are.
func TestPrintSmall(t *testing.T) {
	some := [][]api.Part{nil, {lit("a")}, {q(lit("a"))}, {lit("%")}, {q(param("y")), q(lit(""))}}
	small := smallParts(some)
	var words [][]api.Part
	for _, a := range small {
		words = append(words, of(a))
		for _, b := range small {
			words = append(words, of(a, b))
		}
	}
	for _, w := range words {
		want := writePlainly(w)
		l, next, e := scanPlainly(want, 0)
		x := api.OK
		if e != api.OK || next != len(want) || !Same(l, w) {
			want, x = "", api.ErrArg
		}
		if s, e := Print(w); s != want || e != x {
			t.Fatalf("Print(%v) = %q, %d; want %q, %d", w, s, e, want, x)
		}
	}
}
