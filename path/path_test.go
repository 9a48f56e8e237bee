package path

import (
	"slices"
	"strings"
	"testing"

	"rehearsal/api"
	"rehearsal/short"
)

// some are paths: all short ones of slashes, dots and names, and of these with names that only begin with dots.
func some() []string {
	l := short.Texts("/.a", 9)
	for _, s := range short.Texts("/DUNH", 6) {
		l = append(l, strings.NewReplacer("D", "./", "U", "../", "N", "ab/", "H", "...").Replace(s))
	}
	return l
}

// x is a text of one sign, n times.
func x(n int) string { return strings.Repeat("x", n) }

// namePlainly tells whether a text may be a name by the document's words, byte by byte.
func namePlainly(s string) bool {
	for i := range len(s) {
		if s[i] == '/' || s[i] == 0 {
			return false
		}
	}
	return len(s) >= 1 && len(s) <= 64 && s != "." && s != ".."
}

// betweenPlainly is what stands between a path's slashes, ahead of the first one and behind the last one, what is empty too.
func betweenPlainly(p string) []string {
	l := []string{""}
	for i := range len(p) {
		if p[i] == '/' {
			l = append(l, "")
			continue
		}
		l[len(l)-1] += p[i : i+1]
	}
	return l
}

// barePlainly takes the slashes off a path's end, one by one.
func barePlainly(p string) string {
	for len(p) > 0 && p[len(p)-1] == '/' {
		p = p[:len(p)-1]
	}
	return p
}

// cleanPlainly marks what is left out of what stands between a path's slashes, as the document has it.
func cleanPlainly(p string) string {
	l := betweenPlainly(p)
	out := make([]bool, len(l))
	for i, s := range l {
		out[i] = s == "" || s == "." || s == ".."
		if s != ".." {
			continue
		}
		for k := i - 1; k >= 0; k-- {
			if !out[k] {
				out[k] = true
				break
			}
		}
	}
	clean := ""
	for i, s := range l {
		if !out[i] {
			clean += "/" + s
		}
	}
	if clean == "" {
		return "/"
	}
	return clean
}

// P3.1: names have 1 to 64 bytes.
func TestNameLengths(t *testing.T) {
	for n, want := range map[int]bool{0: false, 1: true, 2: true, 63: true, 64: true, 65: false, 256: false, 5000: false} {
		if got := Name(x(n)); got != want {
			t.Errorf("Name of %d bytes = %v", n, got)
		}
	}
	// Bytes are counted, not signs of more than one byte.
	if Name(strings.Repeat("é", 33)) || !Name(strings.Repeat("é", 32)) {
		t.Error("bytes are not counted")
	}
}

// P3.1: no / and no byte 0 anywhere in it, whatever else stands there.
func TestNameBytes(t *testing.T) {
	for c := range 256 {
		b := string([]byte{byte(c)})
		want := c != 0 && c != '/'
		for _, s := range []string{b + "b", "a" + b, "a" + b + "b", b + x(63), x(63) + b, "\xff" + b, b + "\xc3"} {
			if Name(s) != want {
				t.Errorf("Name(%q) = %v", s, !want)
			}
		}
		if Name(b) != (want && c != '.') {
			t.Errorf("Name(%q) = %v", b, Name(b))
		}
	}
}

// P3.1: neither . nor .. is one; what only has dots in it is.
func TestNameDots(t *testing.T) {
	for s, want := range map[string]bool{".": false, "..": false, "...": true, ".a": true, "a.": true, "..a": true, "a..": true, ". ": true, " ..": true, ".\x00": false, "./": false, "../": false} {
		if got := Name(s); got != want {
			t.Errorf("Name(%q) = %v", s, got)
		}
	}
	for _, s := range short.Texts("./a\x00", 6) {
		if got := Name(s); got != namePlainly(s) {
			t.Errorf("Name(%q) = %v", s, got)
		}
	}
}

// P3.2: names, whether a / stands at the end, and errors, each at its edge.
func TestParts(t *testing.T) {
	for _, c := range []struct {
		p    string
		want []string
		end  bool
		e    api.Errno
	}{
		{"/a//b/", []string{"a", "b"}, true, api.OK},
		{"/", nil, false, api.OK},
		{"///", nil, false, api.OK},
		{"/a", []string{"a"}, false, api.OK},
		{"//a", []string{"a"}, false, api.OK},
		{"/a/", []string{"a"}, true, api.OK},
		{"/a///", []string{"a"}, true, api.OK},
		{"/.", []string{"."}, false, api.OK},
		{"/./", []string{"."}, true, api.OK},
		{"/../a/..", []string{"..", "a", ".."}, false, api.OK},
		{"/a b/\xff\n/", []string{"a b", "\xff\n"}, true, api.OK},
		{"/" + x(64), []string{x(64)}, false, api.OK},
		{"/a/" + x(64) + "//", []string{"a", x(64)}, true, api.OK},
		{"", nil, false, api.NoEntry},
		{"a", nil, false, api.Invalid},
		{"a/", nil, false, api.Invalid},
		{".", nil, false, api.Invalid},
		{"\x00", nil, false, api.Invalid},
		{"\x00/", nil, false, api.Invalid},
		{"/\x00", nil, false, api.Invalid},
		{"/a\x00b/c", nil, false, api.Invalid},
		{"/a/b\x00", nil, false, api.Invalid},
		{"/" + x(65), nil, false, api.LongName},
		{"/" + x(65) + "/", nil, false, api.LongName},
		{"/a/b/" + x(65), nil, false, api.LongName},
		{"/" + x(65) + "/a", nil, false, api.LongName},
		{"/a/" + x(65) + "/b/", nil, false, api.LongName},
	} {
		got, end, e := Parts(c.p)
		if !slices.Equal(got, c.want) || end != c.end || e != c.e {
			t.Errorf("Parts(%q) = %q, %v, %d", c.p, got, end, e)
		}
	}
}

// P3.2: paths of 256 bytes are the longest ones.
func TestPartsLongest(t *testing.T) {
	long := strings.Repeat("/"+x(63), 4)
	if got, end, e := Parts(long); len(got) != 4 || end || e != api.OK {
		t.Error(len(long), got, end, e)
	}
	for _, p := range []string{long + "/", "/" + long, long + "x"} {
		if got, end, e := Parts(p); got != nil || end || e != api.LongName {
			t.Error(len(p), got, end, e)
		}
	}
	if got, end, e := Parts(strings.Repeat("/", 256)); got != nil || end || e != api.OK {
		t.Error(got, end, e)
	}
	if got, end, e := Parts(strings.Repeat("/", 257)); got != nil || end || e != api.LongName {
		t.Error(got, end, e)
	}
	if got, end, e := Parts(strings.Repeat("/x", 127) + "//"); len(got) != 127 || !end || e != api.OK {
		t.Error(got, end, e)
	}
}

// P3.2: of several errors the first one that the document names is told.
func TestPartsOrder(t *testing.T) {
	for _, c := range []struct {
		p    string
		want api.Errno
	}{
		{x(257), api.LongName},                 // ahead of: no / first
		{"/" + x(255) + "\x00", api.LongName},  // ahead of: a byte 0
		{"/" + x(254) + "\x00", api.Invalid},   // a byte 0 ahead of: a long name
		{x(65), api.Invalid},                   // no / first ahead of: a long name
		{x(256), api.Invalid},                  // the same, as long as may be
		{x(65) + "/a", api.Invalid},            // the same, with a / behind
		{"/" + x(65) + "/\x00", api.Invalid},   // a byte 0 behind a long name
		{"/\x00/" + x(65), api.Invalid},        // a byte 0 ahead of a long name
		{"/" + x(255), api.LongName},           // a long name alone
		{strings.Repeat("\x00", 257), 26},      // all, but empty
		{strings.Repeat("\x00", 256), 28},      // all, but empty and too long
		{strings.Repeat("/", 257), 26},         // too long, without a name
		{"/" + x(64) + "/\x00" + x(64), 28},    // a name that is too long with its byte 0
		{"/" + strings.Repeat("\xff", 65), 26}, // bytes are counted
	} {
		if got, end, e := Parts(c.p); got != nil || end || e != c.want {
			t.Errorf("Parts(%q) = %q, %v, %d", c.p, got, end, e)
		}
	}
}

// P3.2: all short paths, by the document's words.
func TestPartsAll(t *testing.T) {
	for _, p := range append(short.Texts("/.a\x00", 6), some()...) {
		got, end, e := Parts(p)
		if p == "" || p[0] != '/' || slices.Contains([]byte(p), 0) {
			want := api.Invalid
			if p == "" {
				want = api.NoEntry
			}
			if got != nil || end || e != want {
				t.Errorf("Parts(%q) = %q, %v, %d", p, got, end, e)
			}
			continue
		}
		want := slices.DeleteFunc(betweenPlainly(p), func(s string) bool { return s == "" })
		if !slices.Equal(got, want) || end != (len(want) > 0 && p[len(p)-1] == '/') || e != api.OK {
			t.Errorf("Parts(%q) = %q, %v, %d", p, got, end, e)
		}
	}
}

// P3.2: a list that was told may be changed without the next one being so.
func TestPartsNew(t *testing.T) {
	one, _, _ := Parts("/a/b")
	one[0] = "c"
	if two, _, _ := Parts("/a/b"); !slices.Equal(two, []string{"a", "b"}) {
		t.Error(two)
	}
}

// P3.3: Join puts one / between the directory, bare of those at its end, and the name, whatever the name is.
func TestJoin(t *testing.T) {
	for _, c := range [][3]string{
		{"/a", "b", "/a/b"}, {"/a/", "b", "/a/b"}, {"/a///", "b", "/a/b"}, {"/", "b", "/b"}, {"///", "b", "/b"},
		{"", "b", "/b"}, {"a", "b", "a/b"}, {".", "b", "./b"}, {"/a//b", "c", "/a//b/c"}, {"//a", "b", "//a/b"},
		{"/a", "", "/a/"}, {"", "", "/"}, {"/", "", "/"}, {"/a", "/b", "/a//b"}, {"/a/", "b/c/", "/a/b/c/"},
		{"/a", "..", "/a/.."}, {"a\x00/", "\xff", "a\x00/\xff"},
		{"/" + x(300), x(300), "/" + x(300) + "/" + x(300)},
	} {
		if got := Join(c[0], c[1]); got != c[2] {
			t.Errorf("Join(%q, %q) = %q", c[0], c[1], got)
		}
	}
	for _, dir := range short.Texts("/.a", 5) {
		for _, name := range short.Texts("/.a", 3) {
			if got := Join(dir, name); got != barePlainly(dir)+"/"+name {
				t.Errorf("Join(%q, %q) = %q", dir, name, got)
			}
		}
	}
}

// P3.3: Abs leaves what is empty or begins with a /, and joins what doesn't.
func TestAbs(t *testing.T) {
	for _, c := range [][3]string{
		{"/a", "b", "/a/b"}, {"/a/", "b/c", "/a/b/c"}, {"/", "b", "/b"}, {"/a", "/b", "/b"}, {"/a", "", ""},
		{"/a", "/", "/"}, {"/a", "//b/", "//b/"}, {"/a", "b//", "/a/b//"}, {"/a", ".", "/a/."}, {"/a", "../b", "/a/../b"},
		{"", "b", "/b"}, {"", "", ""}, {"", "/b", "/b"}, {"a", "b", "a/b"}, {"///", ".", "/."}, {"/a", "\x00/", "/a/\x00/"},
	} {
		if got := Abs(c[0], c[1]); got != c[2] {
			t.Errorf("Abs(%q, %q) = %q", c[0], c[1], got)
		}
	}
	for _, dir := range short.Texts("/.a", 5) {
		for _, p := range short.Texts("/.a", 3) {
			want := p
			if p != "" && p[0] != '/' {
				want = barePlainly(dir) + "/" + p
			}
			if got := Abs(dir, p); got != want {
				t.Errorf("Abs(%q, %q) = %q", dir, p, got)
			}
		}
	}
}

// P3.4: Clean leaves out what is empty, . , and .. with the one ahead of it that is left.
func TestClean(t *testing.T) {
	for p, want := range map[string]string{
		"/a/./b/../c": "/a/c", "/../..": "/", "/": "/", "": "/", "//": "/", ".": "/", "..": "/", "/.": "/", "/..": "/",
		"/a": "/a", "a": "/a", "a/b": "/a/b", "a/": "/a", "//a///b//": "/a/b", "/a/..": "/", "/a/../": "/", "/a/b/../..": "/",
		"/a/b/c/../../d": "/a/d", "/a/../../b": "/b", "/../a": "/a", "../a": "/a", "/a//..": "/", "/a/./..": "/",
		"/a/b/./../..": "/", "/...": "/...", "/.a/..b": "/.a/..b", "/a/...": "/a/...", "/a/.../..": "/a",
		"/a/ /..": "/a", "/\x00/\xff/.": "/\x00/\xff", "/" + x(300) + "/a/..": "/" + x(300),
	} {
		if got := Clean(p); got != want {
			t.Errorf("Clean(%q) = %q", p, got)
		}
	}
	for _, p := range some() {
		if got := Clean(p); got != cleanPlainly(p) {
			t.Errorf("Clean(%q) = %q", p, got)
		}
	}
}

// P3.4: paths far longer than a tree may have come to an end, too.
func TestCleanLong(t *testing.T) {
	n := 1 << 17
	for p, want := range map[string]string{
		strings.Repeat("/a", n):                                  strings.Repeat("/a", n),
		strings.Repeat("/a/..", n) + "/b":                        "/b",
		strings.Repeat("/a", n) + strings.Repeat("/..", n) + "/": "/",
		strings.Repeat("/", n) + "a":                             "/a",
	} {
		if got := Clean(p); got != want {
			t.Error(len(p), len(got))
		}
	}
}

// P3.5: Base tells what stands behind the last /, those at the end taken off.
func TestBase(t *testing.T) {
	for p, want := range map[string]string{
		"/a/b/": "b", "/a/b": "b", "/a": "a", "a": "a", "a/": "a", "a//": "a", "/": "", "///": "", "": "", ".": ".", "..": "..",
		"/a/.": ".", "/a/..": "..", "../": "..", "/a//b///": "b", "//a": "a", "a/b c": "b c", "/\x00/\xff/": "\xff", "/" + x(300): x(300),
	} {
		if got := Base(p); got != want {
			t.Errorf("Base(%q) = %q", p, got)
		}
	}
	for _, p := range some() {
		l := betweenPlainly(barePlainly(p))
		if got := Base(p); got != l[len(l)-1] {
			t.Errorf("Base(%q) = %q", p, got)
		}
	}
}

// P3.5: Up tells what stands ahead of the last /: . without one, / if nothing does.
func TestUp(t *testing.T) {
	for p, want := range map[string]string{
		"/a/b": "/a", "a": ".", "/a": "/", "/a/": "/", "a/": ".", "a///": ".", "//a": "/", "///a//": "/", "a/b": "a", "a//b": "a",
		"/a//b/": "/a", "/a/b/": "/a", "/a//b//c": "/a//b", "/a/.": "/a", "/..": "/", "..": ".", "../a": "..", "/a/b//..//": "/a/b",
		"//a/b": "//a", "\x00/\xff": "\x00",
		// Without the / at its end nothing is left of these, and there is no / in that.
		"/": ".", "///": ".", "": ".",
	} {
		if got := Up(p); got != want {
			t.Errorf("Up(%q) = %q", p, got)
		}
	}
	for _, p := range some() {
		l := betweenPlainly(barePlainly(p))
		want := "."
		if len(l) > 1 {
			want = barePlainly(strings.Join(l[:len(l)-1], "/"))
			if want == "" {
				want = "/"
			}
		}
		if got := Up(p); got != want {
			t.Errorf("Up(%q) = %q", p, got)
		}
	}
}

// P3.6: what is clean stays as it is, and Parts of it, joined, are it.
func TestCleanStays(t *testing.T) {
	for _, p := range some() {
		clean := Clean(p)
		if got := Clean(clean); got != clean {
			t.Errorf("Clean(%q) = %q", clean, got)
		}
		l, end, e := Parts(clean)
		joined := ""
		for _, name := range l {
			if !Name(name) {
				t.Errorf("Parts(%q) = %q", clean, l)
			}
			joined = Join(joined, name)
		}
		if len(l) == 0 {
			joined = "/"
		}
		if joined != clean || end || e != api.OK {
			t.Errorf("Parts(%q) = %q, %v, %d", clean, l, end, e)
		}
	}
}

// P3.6: what is joined has its name and its directory.
func TestJoinTaken(t *testing.T) {
	names := append(slices.DeleteFunc(short.Texts(".a/\x00", 3), func(s string) bool { return !Name(s) }), x(64), "a b", "\xff")
	for _, dir := range short.Texts("/.a", 7) {
		for _, name := range names {
			joined := Join(dir, name)
			if Base(joined) != name {
				t.Errorf("Base(%q) = %q", joined, Base(joined))
			}
			if Clean(dir) == dir && Up(joined) != dir {
				t.Errorf("Up(%q) = %q", joined, Up(joined))
			}
		}
	}
}
