package match

import (
	"strings"
	"testing"

	"rehearsal/short"
)

// every byte, as a text.
func bytesAll() []string {
	var l []string
	for c := range 256 {
		l = append(l, string([]byte{byte(c)}))
	}
	return l
}

// fitsPlainly holds a text against a pattern by the document's words, the longest way.
func fitsPlainly(p, s string) bool {
	switch {
	case p == "":
		return s == ""
	case p[0] == '*':
		return fitsPlainly(p[1:], s) || s != "" && fitsPlainly(p, s[1:])
	case s == "":
		return false
	case p[0] == '?':
		return fitsPlainly(p[1:], s[1:])
	case p[0] == '[':
		if has, behind, ok := setPlainly(p); ok {
			return has[s[0]] && fitsPlainly(behind, s[1:])
		}
	case p[0] == '\\' && len(p) > 1:
		p = p[1:]
	}
	return p[0] == s[0] && fitsPlainly(p[1:], s[1:])
}

// setPlainly reads a set: first its signs, a \ taken off, with a mark whether one stood there; then what they stand for.
func setPlainly(p string) (has [256]bool, behind string, ok bool) {
	at, not := 1, false
	if strings.HasPrefix(p[at:], "!") {
		at, not = at+1, true
	}
	type sign struct {
		c      byte
		marked bool
	}
	var l []sign
	for {
		if at == len(p) {
			return has, "", false
		}
		if p[at] == ']' && len(l) > 0 {
			break
		}
		x := sign{c: p[at]}
		if p[at] == '\\' && at+1 < len(p) {
			at++
			x = sign{p[at], true}
		}
		l = append(l, x)
		at++
	}
	for i := 0; i < len(l); i++ {
		to := l[i].c
		from := to
		if i+2 < len(l) && l[i+1] == (sign{c: '-'}) {
			to = l[i+2].c
			i += 2
		}
		for c := range has {
			has[c] = has[c] || int(from) <= c && c <= int(to)
		}
	}
	for c := range has {
		has[c] = has[c] != not
	}
	return has, p[at+1:], true
}

// holding is a pattern with texts that fit it, and texts that don't.
type holding struct {
	p       string
	fit, no []string
}

func checkHoldings(t *testing.T, l []holding) {
	t.Helper()
	for _, x := range l {
		for _, s := range x.fit {
			if !Fits(x.p, s) {
				t.Errorf("Fits(%q, %q) = false", x.p, s)
			}
		}
		for _, s := range x.no {
			if Fits(x.p, s) {
				t.Errorf("Fits(%q, %q) = true", x.p, s)
			}
		}
	}
}

// P2.1: parts beside sets, all of the text, in order.
func TestFits(t *testing.T) {
	checkHoldings(t, []holding{
		{"", []string{""}, []string{"a", "\\"}},
		{"abc", []string{"abc"}, []string{"", "ab", "bc", "abcd", "xabc", "acb", "ABC"}},
		{"*", []string{"", "a", "abc", "/.\x00\xff\n"}, nil},
		{"**", []string{"", "a", "ab"}, nil},
		{"a*", []string{"a", "ab", "a*"}, []string{"", "ba"}},
		{"*a", []string{"a", "ba", "aa"}, []string{"", "ab"}},
		{"a*a", []string{"aa", "aba", "aaa"}, []string{"a", "ab"}},
		{"*ab*", []string{"ab", "aab", "abab", "xaby"}, []string{"", "a", "ba", "axb"}},
		{"*ab", []string{"abaab", "aab"}, []string{"aba"}},
		{"a*b*c", []string{"abc", "aXbYc", "abcc", "aabbcc"}, []string{"aXbY", "acb", "ac"}},
		{"*a?*a", []string{"aba", "aaa", "xabxa"}, []string{"aa", "ab", "a"}},
		{"?", []string{"a", "?", "\xff", "\x00", "\n", "/"}, []string{"", "ab", "é"}},
		{"a?c", []string{"abc", "a?c"}, []string{"ac", "abbc"}},
		{"??*", []string{"ab", "abc", "é"}, []string{"", "a"}},
		{"\\*", []string{"*"}, []string{"", "a", "\\*", "\\"}},
		{"\\?", []string{"?"}, []string{"a", "\\?"}},
		{"\\a", []string{"a"}, []string{"\\a"}},
		{"\\\\", []string{"\\"}, []string{"\\\\"}},
		{"\\\\*", []string{"\\", "\\a"}, []string{"*"}},
		{"a\\", []string{"a\\"}, []string{"a", "a\\\\"}},
		{"\\", []string{"\\"}, []string{""}},
		{"a]-!", []string{"a]-!"}, []string{"a"}},
		{"é", []string{"é"}, []string{"e", "\xc3"}},
	})
}

// P2.1: sets, and a [ that begins none.
func TestFitsSets(t *testing.T) {
	checkHoldings(t, []holding{
		{"[abc]", []string{"a", "b", "c"}, []string{"", "d", "ab", "[abc]", "]"}},
		{"[a-c]", []string{"a", "b", "c"}, []string{"`", "d", "-"}},
		{"[a-c]*.go", []string{"b.go", "bx.go", "a*.go"}, []string{"d.go", ".go", "b.g"}},
		{"[a-cx-z]", []string{"a", "c", "x", "z"}, []string{"d", "w", "-"}},
		{"[a-a]", []string{"a"}, []string{"-", "b"}},
		{"[c-a]", nil, []string{"", "a", "b", "c", "-"}},
		{"[!c-a]", []string{"a", "b", "-", "\xff"}, []string{"", "ab"}},
		{"[!a]", []string{"b", "!", "]", "\xff"}, []string{"", "a", "ab", "bb"}},
		{"[!a-c]?", []string{"da", "!a"}, []string{"aa", "bb", "d"}},
		{"[!a]*", []string{"b", "ba"}, []string{"", "ab"}},
		{"[a!]", []string{"a", "!"}, []string{"b"}},
		{"[!!]", []string{"a"}, []string{"!"}},
		{"[]a]", []string{"]", "a"}, []string{"[", "b", "]a]"}},
		{"[!]a]", []string{"[", "!", "b"}, []string{"]", "a"}},
		{"[!]]", []string{"a", "!"}, []string{"]", "!]"}},
		{"[]-a]", []string{"]", "^", "_", "`", "a"}, []string{"-", "b", "\\"}},
		{"[\\]]", []string{"]"}, []string{"\\", "\\]"}},
		{"[a\\]b]", []string{"a", "]", "b"}, []string{"\\"}},
		{"[\\\\]", []string{"\\"}, []string{"]", "a"}},
		{"[\\!a]", []string{"!", "a"}, []string{"b", "\\"}},
		{"[!\\!]", []string{"a", "\\"}, []string{"!"}},
		{"[\\a-c]", []string{"a", "b", "c"}, []string{"\\", "-"}},
		{"[a-\\c]", []string{"a", "b", "c"}, []string{"\\", "-"}},
		{"[a-\\c-e]", []string{"a", "b", "c", "-", "e"}, []string{"d", "\\"}},
		{"[c-\\a]", nil, []string{"a", "b", "c", "-", "\\"}},
		{"[X-\\]a]", []string{"X", "Z", "[", "\\", "]", "a"}, []string{"^", "-"}},
		{"[a\\-c]", []string{"a", "-", "c"}, []string{"b", "\\"}},
		{"[a-]", []string{"a", "-"}, []string{"b", "]"}},
		{"[-a]", []string{"a", "-"}, []string{"b"}},
		{"[!-a]", []string{"b"}, []string{"a", "-"}},
		{"[-]", []string{"-"}, []string{"]"}},
		{"[a-]]", []string{"a]", "-]"}, []string{"]", "^", "a"}},
		{"[--/]", []string{"-", ".", "/"}, []string{"0", ","}},
		{"[+--]", []string{"+", ",", "-"}, []string{"*", "."}},
		{"[a-c-e]", []string{"a", "b", "c", "-", "e"}, []string{"d"}},
		{"[*?[]", []string{"*", "?", "["}, []string{"a", "]"}},
		{"[[a]", []string{"[", "a"}, []string{"]", "[a"}},
		{"[\x80-\xff]", []string{"\x80", "\xff"}, []string{"\x7f", "a"}},
		{"[\x00-\xff]", []string{"\x00", "a", "\xff"}, []string{""}},
		{"[?-@]", []string{"?", "@"}, []string{">", "A"}},
		{"[a-b][c-d]", []string{"ac", "bd"}, []string{"ab", "cd", "a"}},

		{"[", []string{"["}, []string{"", "a"}},
		{"[a", []string{"[a"}, []string{"a", "["}},
		{"[]", []string{"[]"}, []string{"", "]", "["}},
		{"[!]", []string{"[!]"}, []string{"", "!", "a", "[]"}},
		{"[!", []string{"[!"}, []string{"a"}},
		{"[a\\]", []string{"[a]"}, []string{"a", "\\", "[a\\]"}},
		{"[\\]", []string{"[]"}, []string{"\\", "]", "[\\]"}},
		{"[\\", []string{"[\\"}, []string{"["}},
		{"[*", []string{"[", "[a"}, []string{"a", ""}},
		{"[?", []string{"[a"}, []string{"[", "a"}},
		{"[[", []string{"[["}, []string{"["}},
		{"[]*[", []string{"[][", "[]a["}, []string{"[a["}},
		{"[![][]", []string{"a[]"}, []string{"[[]"}},
		{"a[", []string{"a["}, []string{"a"}},
	})
}

// P2.1: a set is a byte, and each byte is told from the others.
func TestFitsEachByte(t *testing.T) {
	for _, a := range bytesAll() {
		for _, b := range bytesAll() {
			for p, want := range map[string]bool{
				"?": true, "[\\" + a + "]": a == b, "[!\\" + a + "]": a != b, "\\" + a: a == b,
				"[\\" + a + "-\xff]": a <= b, "[\x00-\\" + a + "]": a >= b,
			} {
				if Fits(p, b) != want {
					t.Errorf("Fits(%q, %q) = %t", p, b, !want)
				}
			}
		}
	}
}

// P2.1: all short patterns of the signs that matter.
func TestFitsShort(t *testing.T) {
	some := short.Texts("a]-![\\", 2)
	for _, p := range short.Texts("*?[]!-\\a", 5) {
		for _, s := range some {
			if got, want := Fits(p, s), fitsPlainly(p, s); got != want {
				t.Fatalf("Fits(%q, %q) = %t", p, s, got)
			}
		}
	}
	some = short.Texts("abc", 5)
	for _, p := range short.Texts("*?ab", 5) {
		for _, s := range some {
			if got, want := Fits(p, s), fitsPlainly(p, s); got != want {
				t.Fatalf("Fits(%q, %q) = %t", p, s, got)
			}
		}
	}
}

// P2.1: it ends soon, whatever it is given.
func TestFitsSoon(t *testing.T) {
	long := strings.Repeat("a", 4096)
	checkHoldings(t, []holding{
		{strings.Repeat("*a", 2000), []string{long}, []string{long + "b", "a"}},
		{strings.Repeat("*a", 2000) + "*b", nil, []string{long}},
		{strings.Repeat("*", 4096) + "b", []string{long + "b"}, []string{long}},
		{strings.Repeat("?*", 2000), []string{long}, []string{"a"}},
		{strings.Repeat("[", 1<<18), []string{strings.Repeat("[", 1<<18)}, []string{"["}},
		{strings.Repeat("a", 1<<18), []string{strings.Repeat("a", 1<<18)}, []string{long}},
	})
	p := strings.Repeat("[ab]*", 1000)
	for _, end := range []bool{false, true} {
		if got := Cut(p, long, end, true); got != "" {
			t.Errorf("%d bytes are left of %d", len(got), len(long))
		}
		if got := Cut(p, long, end, false); len(got) != len(long)-1000 {
			t.Errorf("%d bytes are left of %d", len(got), len(long))
		}
	}
}

// P2.2: a \ ahead of each sign that may be special, and of no other.
func TestQuote(t *testing.T) {
	for s, want := range map[string]string{
		"": "", "abc": "abc", "a*]": "a\\*\\]", "*?[]!-\\": "\\*\\?\\[\\]\\!\\-\\\\",
		"a b": "a b", "é/$": "é/$", "[a-c]": "\\[a\\-c\\]",
	} {
		if got := Quote(s); got != want {
			t.Errorf("Quote(%q) = %q; want %q", s, got, want)
		}
	}
	for _, s := range bytesAll() {
		want := s
		if strings.Contains("*?[]!-\\", s) {
			want = "\\" + s
		}
		if got := Quote(s); got != want {
			t.Errorf("Quote(%q) = %q; want %q", s, got, want)
		}
	}
}

// P2.2: the text of a pattern each part of which is a byte itself.
func TestPlain(t *testing.T) {
	for p, want := range map[string]string{
		"": "", "abc": "abc", "a\\*b": "a*b", "\\a": "a", "a\\": "a\\", "\\\\": "\\", "\\": "\\", "\\\\\\": "\\\\",
		"[": "[", "[a": "[a", "[]": "[]", "[!]": "[!]", "[a\\]": "[a]", "]": "]", "a-b!": "a-b!", "\\[a]": "[a]",
		"\\?\\*": "?*", "é\xff\x00": "é\xff\x00",
	} {
		if got, ok := Plain(p); !ok || got != want {
			t.Errorf("Plain(%q) = %q, %t; want %q", p, got, ok, want)
		}
	}
	for _, p := range []string{"*", "?", "[a]", "[!a]", "a*", "a?b", "a[b]", "[\\a]", "\\\\*", "[*", "[]]", "[a]\\", "ab[c-a]"} {
		if got, ok := Plain(p); ok || got != "" {
			t.Errorf("Plain(%q) = %q, %t", p, got, ok)
		}
	}
}

// P2.3: from the beginning and from the end, the shortest and the longest.
func TestCut(t *testing.T) {
	for _, x := range []struct {
		p, s string
		// From the beginning the shortest, the longest; from the end the same.
		want [4]string
	}{
		{"*.", "a.b.c", [4]string{"b.c", "c", "a.b.c", "a.b.c"}},
		{".*", "a.b.c", [4]string{"a.b.c", "a.b.c", "a.b", "a"}},
		{"*/", "a/b/c", [4]string{"b/c", "c", "a/b/c", "a/b/c"}},
		{"*", "abc", [4]string{"abc", "", "abc", ""}},
		{"?*", "abc", [4]string{"bc", "", "ab", ""}},
		{"?", "abc", [4]string{"bc", "bc", "ab", "ab"}},
		{"x", "abc", [4]string{"abc", "abc", "abc", "abc"}},
		{"", "abc", [4]string{"abc", "abc", "abc", "abc"}},
		{"abc", "abc", [4]string{"", "", "", ""}},
		{"abcd", "abc", [4]string{"abc", "abc", "abc", "abc"}},
		{"ab", "abab", [4]string{"ab", "ab", "ab", "ab"}},
		{"a*b", "abab", [4]string{"ab", "", "ab", ""}},
		{"[a-b]*", "abc", [4]string{"bc", "", "a", ""}},
		{"*[!c]", "abc", [4]string{"bc", "c", "abc", "abc"}},
		{"\\*", "*a*", [4]string{"a*", "a*", "*a", "*a"}},
		{"*", "", [4]string{"", "", "", ""}},
		{"?", "", [4]string{"", "", "", ""}},
		{"a\\", "a\\ba\\", [4]string{"ba\\", "ba\\", "a\\b", "a\\b"}},
		{"?", "é", [4]string{"\xa9", "\xa9", "\xc3", "\xc3"}},
	} {
		got := [4]string{Cut(x.p, x.s, false, false), Cut(x.p, x.s, false, true), Cut(x.p, x.s, true, false), Cut(x.p, x.s, true, true)}
		if got != x.want {
			t.Errorf("Cut(%q, %q) = %q; want %q", x.p, x.s, got, x.want)
		}
	}
}

// cutPlainly tries all parts, from the shortest on, or from the longest.
func cutPlainly(p, s string, end, most bool) string {
	for i := range len(s) + 1 {
		n := i
		if most {
			n = len(s) - i
		}
		if end && Fits(p, s[len(s)-n:]) {
			return s[:len(s)-n]
		}
		if !end && Fits(p, s[:n]) {
			return s[n:]
		}
	}
	return s
}

// P2.3, P2.4: what is cut off fits, and nothing shorter (longer) does.
func TestCutShort(t *testing.T) {
	some := short.Texts("ab]", 3)
	for _, p := range short.Texts("*?[]!a", 4) {
		for _, s := range some {
			for way := range 4 {
				end, most := way&1 == 1, way&2 == 2
				if got, want := Cut(p, s, end, most), cutPlainly(p, s, end, most); got != want {
					t.Fatalf("Cut(%q, %q, %t, %t) = %q; want %q", p, s, end, most, got, want)
				}
			}
		}
	}
}

// P2.4: a text alone fits what it is quoted as, which is plain.
func TestQuoteFits(t *testing.T) {
	some := short.Texts("*?[]!-\\a", 3)
	for _, s := range some {
		p := Quote(s)
		if got, ok := Plain(p); !ok || got != s {
			t.Errorf("Plain(%q) = %q, %t", p, got, ok)
		}
		for _, other := range some {
			if Fits(p, other) != (s == other) {
				t.Errorf("Fits(%q, %q) = %t", p, other, s != other)
			}
		}
	}
}

// P2.4: a text fits * and p and * just if a part of it fits p. (A \ that ends p stands for itself there, but not with a * behind it.)
func TestFitsWithin(t *testing.T) {
	some := short.Texts("ab]", 3)
	for _, p := range short.Texts("*?[]!a", 4) {
		for _, s := range some {
			want := false
			for from := range len(s) + 1 {
				for to := from; to <= len(s); to++ {
					want = want || Fits(p, s[from:to])
				}
			}
			if got := Fits("*"+p+"*", s); got != want {
				t.Fatalf("Fits(%q, %q) = %t", "*"+p+"*", s, got)
			}
		}
	}
}
