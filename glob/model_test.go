package glob

import (
	"math/rand"
	"regexp"
	"slices"
	"strings"
	"testing"

	"rehearsal/acts"
	"rehearsal/api"
	"rehearsal/match"
	"rehearsal/over"
	"rehearsal/path"
	"rehearsal/short"
	"rehearsal/tree"
	"rehearsal/vtree"
)

// The chapter's words, said once more: all texts are made, part by part, and only then it is asked which lists came first.

// onePart is what stands ahead of a / , or of the pattern's end.
var onePart = regexp.MustCompile(`^(?s:\\.|[^/\\]|\\$)*`)

// partsPlainly are a pattern's parts.
func partsPlainly(p string) []string {
	var l []string
	for {
		part := onePart.FindString(p)
		l = append(l, part)
		if part == p {
			return l
		}
		p = p[len(part)+1:]
	}
}

// specialPlainly tells whether a pattern has a part that isn't plain.
func specialPlainly(p string) bool {
	n := 0
	for _, part := range partsPlainly(p) {
		if _, plain := match.Plain(part); !plain {
			n++
		}
	}
	return n > 0
}

// way is a text that is being put together, and the names in it that lists told.
type way struct {
	names []string
	text  string
}

// ways are all texts that a pattern comes to, and the names ahead of each list that is asked for, in no order.
func ways(f *vtree.Files, dir, p string) ([]way, [][]string) {
	var lists [][]string
	now := []way{{}}
	for i, part := range partsPlainly(p) {
		var next []way
		for _, w := range now {
			if i > 0 {
				w.text += "/"
			}
			if plain, ok := match.Plain(part); ok {
				next = append(next, way{w.names, w.text + plain})
				continue
			}
			lists = append(lists, w.names)
			for _, name := range namesPlainly(f, dir, w.text, part) {
				next = append(next, way{append(slices.Clone(w.names), name), w.text + name})
			}
		}
		now = next
	}
	return now, lists
}

// namesPlainly are the names behind a text that fit a part.
func namesPlainly(f *vtree.Files, dir, text, part string) []string {
	if text == "" {
		text = "."
	}
	var out []string
	names, _ := f.List(path.Abs(dir, text))
	for _, name := range names {
		hidden := name[0] == '.'
		dot := regexp.MustCompile(`^\\?\.`).MatchString(part)
		if match.Fits(part, name) && (dot || !hidden) {
			out = append(out, name)
		}
	}
	return out
}

// plainly is what a pattern finds.
func plainly(f *vtree.Files, dir, p string) []string {
	if len(p) > 8192 || !specialPlainly(p) {
		return nil
	}
	l, lists := ways(f, dir, p)
	// What stands behind a name comes behind it, and ahead of the next one.
	slices.SortFunc(lists, slices.Compare[[]string])
	slices.SortFunc(l, func(a, b way) int { return slices.Compare(a.names, b.names) })
	var found []string
	for _, w := range l {
		last := w.names[:len(w.names)-1]
		at, _ := slices.BinarySearchFunc(lists, last, slices.Compare[[]string])
		if _, e := f.Stat(path.Abs(dir, w.text), false); at < 1024 && e == api.OK {
			found = append(found, w.text)
		}
	}
	found = found[:min(len(found), 256)]
	slices.Sort(found)
	return found
}

// usual is a tree with nodes of all kinds, hidden names too.
func usual(t *testing.T) api.Tree {
	t.Helper()
	f, d, e := vtree.Open(acts.Tree(api.Room{Nodes: api.MaxNodes, Bytes: api.MaxBytes}), 0)
	if e != api.OK {
		t.Fatal(e)
	}
	fill(t, f, `/.d/ /.d/d /d/.f=/f /d/d/.l>/ /d/d- /d/d-f /d/... /e/\ /e/[d /e/* /e/d*`)
	return d.Tree()
}

// same checks that patterns find what they should.
func same(t *testing.T, f *vtree.Files, dir string, patterns ...string) {
	t.Helper()
	for _, p := range patterns {
		if got, want := Expand(f, dir, p), plainly(f, dir, p); !slices.Equal(got, want) {
			t.Fatalf("Expand(%q, %q) = %q; want %q", dir, p, got, want)
		}
	}
}

// P12.1: what all short patterns are.
func TestShortSpecial(t *testing.T) {
	for _, p := range short.Texts(`*?[]!-\/a`, 6) {
		if got, want := Special(p), specialPlainly(p); got != want {
			t.Fatalf("Special(%q) = %v", p, got)
		}
	}
}

// P12.2: what all short patterns find.
func TestShortPatterns(t *testing.T) {
	f, _, _ := vtree.Open(usual(t), 0)
	for _, dir := range []string{"/", "/d", "/e"} {
		same(t, f, dir, short.Texts(`*?/.d\[`, 5)...)
		same(t, f, dir, short.Texts(`*/d`, 7)...)
	}
	for _, dir := range []string{"", "d", "/d/d/", "/r/l", "/none", "/f"} {
		same(t, f, dir, short.Texts(`*?/.\[`, 4)...)
	}
}

// some are patterns of some tokens, by chance.
func some(r *rand.Rand, tokens string, n, most int) []string {
	var l []string
	among := strings.Fields(tokens)
	for range n {
		p := ""
		for range 1 + r.Intn(most) {
			p += among[r.Intn(len(among))]
		}
		l = append(l, p)
	}
	return l
}

// tokens are what patterns are made of.
const tokens = `* * ? ? [d-f] [!d] [.] [] [ ] \ \* \. - .. . / / / / */ */ r/ .*/ ?/ d/ d l r u`

// P12.2: what patterns find on trees that were changed by chance.
func TestSomePatterns(t *testing.T) {
	r := rand.New(rand.NewSource(12))
	for run := range 40 {
		f, _, _ := vtree.Open(usual(t), 0)
		for _, a := range acts.Some(acts.Paths(), uint64(run), 20*(run%10)) {
			a.Do(f)
		}
		for _, dir := range []string{"/", "/d", "/e/../l/"} {
			same(t, f, dir, some(r, tokens, 60, 7)...)
		}
	}
}

// P12.2: what patterns find that have far more lists, or files, than may be.
func TestManyFound(t *testing.T) {
	f := made(t, "/e/ /e/x /e/.x /e/y-/ /e/y/ /e/y/x /e/y-/x"+" /e/a>/e /e/a-b>. /e/a.c>../e /e/->/e/ /e/b>a /e/b.>/e /d>e"+many("/e/", "none", 5)+many("/e/2", "/", 9))
	for _, p := range []string{"*", "*/*", "*/*/*", "*/*/*/x", "*/*/*/?", "*/[xy]/*/*", "[!1]*/*/*/y", "2*/*/*/x", "2*/d/*/*", "2*/*/*/*", "[xy2]*/*/[y2]*/[x1]*", "*/*/*/", "/e/*/*/*/none", "*/*/*/y-"} {
		same(t, f, "/e", p)
	}
}

// P12.3: what is found is there, and fits, part by part.
func TestFoundFits(t *testing.T) {
	r := rand.New(rand.NewSource(3))
	f, _, _ := vtree.Open(usual(t), 0)
	n := 0
	for _, p := range some(r, tokens, 8000, 6) {
		if strings.Contains(p, `\/`) {
			continue // One part finds what two names are then.
		}
		for _, text := range Expand(f, "/", p) {
			parts, names := partsPlainly(p), strings.Split(text, "/")
			if _, e := f.Stat(path.Abs("/", text), false); e != api.OK || !slices.EqualFunc(parts, names, match.Fits) {
				t.Fatal(p, text)
			}
			n++
		}
	}
	if n < 4000 {
		t.Error("too few are found:", n)
	}
}

// P12.3: every name in a directory that fits is found by the part alone.
func TestAllThatFits(t *testing.T) {
	f, d, _ := vtree.Open(usual(t), 0)
	x := d.Tree()
	for _, n := range x.Nodes {
		dir, _ := tree.Path(x, n.ID)
		if n.Kind != api.Dir {
			continue
		}
		for _, part := range short.Texts(`*?[].d-\`, 4) {
			var want []string
			for _, e := range n.Entries {
				if match.Fits(part, e.Name) && (e.Name[0] != '.' || part[0] == '.' || strings.HasPrefix(part, `\.`)) {
					want = append(want, e.Name)
				}
			}
			if got := Expand(f, dir, part); Special(part) && !slices.Equal(got, want) {
				t.Fatal(dir, part, got, want)
			}
		}
	}
}

// P12.3: above a frozen tree the same is found as on a disk, and below stays.
func TestAbove(t *testing.T) {
	r := rand.New(rand.NewSource(6))
	for run := range 40 {
		x := usual(t)
		f, o, _ := over.Open(x, 0)
		g, _, _ := vtree.Open(x, 0)
		for _, a := range acts.Some(acts.Paths(), uint64(run), 40) {
			p, dir := some(r, tokens, 1, 6)[0], "/d"[:1+r.Intn(2)]
			if got, want := Expand(f, dir, p), Expand(g, dir, p); !slices.Equal(got, want) {
				t.Fatal(dir, p, got, want)
			}
			a.Do(f)
			a.Do(g)
		}
		if !slices.EqualFunc(o.Lower().Nodes, x.Nodes, tree.SameNode) {
			t.Fatal(o.Lower())
		}
	}
}

// P12.3: what is found is seen of the tree below, and nothing that isn't looked for.
func TestSeen(t *testing.T) {
	f, o, _ := over.Open(usual(t), 0)
	Expand(f, "/d", "d*f")
	var paths []string
	for _, x := range o.Facts() {
		if p, _ := tree.Path(o.Lower(), x.Node); x.Kind == api.FactNode || x.Kind == api.FactList {
			paths = append(paths, p)
		}
	}
	if !slices.Equal(paths, []string{"/d", "/d/d-f"}) {
		t.Error(paths, o.Facts())
	}
}
