package vars

import (
	"maps"
	"math/big"
	"math/rand"
	"regexp"
	"slices"
	"strconv"
	"strings"
	"testing"

	"rehearsal/api"
	"rehearsal/short"
)

// The chapter's words, said once more: values lie in a map, and parameters are counted by numbers of any length.

// plain is what a table has.
type plain struct {
	values map[string]string
	args   []string
	status int
}

var (
	namePlainly  = regexp.MustCompile(`^[A-Za-z_][A-Za-z_0-9]{0,63}$`)
	digitsAlone  = regexp.MustCompile(`^[0-9]+$`)
	digitsBefore = regexp.MustCompile(`^[0-9]`)
)

func (p *plain) copied() *plain {
	return &plain{maps.Clone(p.values), slices.Clone(p.args), p.status}
}

func (p *plain) set(name, value string) api.Errno {
	if !namePlainly.MatchString(name) {
		return api.ErrName
	}
	others := 0
	for x := range p.values {
		if x != name {
			others++
		}
	}
	_, there := p.values[name]
	if len(value) > 4096 || others >= 64 && !there {
		return api.ErrLimit
	}
	p.values[name] = value
	return api.OK
}

func (p *plain) setArgs(args []string) api.Errno {
	longest := 0
	for _, x := range args {
		longest = max(longest, len(x))
	}
	if len(args) > 256 || longest > 4096 {
		return api.ErrLimit
	}
	p.args = slices.Clone(args)
	return api.OK
}

func (p *plain) shift(n int) bool {
	if n < 0 || n > len(p.args) {
		return false
	}
	for range n {
		p.args = slices.Delete(slices.Clone(p.args), 0, 1)
	}
	return true
}

func (p *plain) vars() []api.Var {
	var l []api.Var
	for _, name := range slices.Sorted(maps.Keys(p.values)) {
		l = append(l, api.Var{Name: name, Value: p.values[name]})
	}
	return l
}

func (p *plain) get(name string) (string, bool) {
	if value, ok := p.values[name]; ok {
		return value, true
	}
	switch {
	case name == "#":
		return strconv.Itoa(len(p.args)), true
	case name == "?":
		return strconv.Itoa(p.status), true
	case (name == "@" || name == "*") && len(p.args) > 0:
		s := p.args[0]
		for _, x := range p.args[1:] {
			s += " " + x
		}
		return s, true
	case digitsBefore.MatchString(name) && digitsAlone.MatchString(name):
		n, _ := new(big.Int).SetString(name, 10)
		for i, x := range p.args {
			if n.Cmp(big.NewInt(int64(i+1))) == 0 {
				return x, true
			}
		}
	}
	return "", false
}

// both are a table, and what it should be.
type both struct {
	v *Table
	p *plain
}

// alike checks that all of a table is as it should be.
func (b both) alike(t *testing.T, names []string) {
	t.Helper()
	if !slices.Equal(b.v.Vars(), b.p.vars()) || !slices.Equal(b.v.Args(), b.p.args) || b.v.Status != b.p.status {
		t.Fatalf("it is %q, %q, %d; want %q, %q, %d", b.v.Vars(), b.v.Args(), b.v.Status, b.p.vars(), b.p.args, b.p.status)
	}
	for _, name := range names {
		s, ok := b.v.Get(name)
		if want, there := b.p.get(name); s != want || ok != there {
			t.Fatalf("Get(%q) = %q, %v; want %q, %v", name, s, ok, want, there)
		}
	}
}

// act does something, by chance, with both, and checks what is answered.
func (b both) act(t *testing.T, r *rand.Rand, names []string) {
	t.Helper()
	name := names[r.Intn(len(names))]
	switch r.Intn(9) {
	case 0, 1, 2, 3:
		value := strconv.Itoa(r.Intn(1000))
		if r.Intn(8) == 0 {
			value = bytes(api.MaxData + r.Intn(2))
		}
		if e, want := b.v.Set(name, value), b.p.set(name, value); e != want {
			t.Fatalf("Set(%q) of %d bytes = %d; want %d", name, len(value), e, want)
		}
	case 4:
		b.v.Unset(name)
		delete(b.p.values, name)
	case 5:
		args := texts(r.Intn(12))
		if r.Intn(4) == 0 {
			args = texts(api.MaxFields - 1 + r.Intn(3))
		}
		if len(args) > 0 && r.Intn(4) == 0 {
			args[r.Intn(len(args))] = bytes(api.MaxData + r.Intn(2))
		}
		if e, want := b.v.SetArgs(args), b.p.setArgs(args); e != want {
			t.Fatalf("SetArgs of %d = %d; want %d", len(args), e, want)
		}
	case 6, 7:
		n := r.Intn(6) - 1
		if ok, want := b.v.Shift(n), b.p.shift(n); ok != want {
			t.Fatalf("Shift(%d) = %v; want %v", n, ok, want)
		}
	case 8:
		b.v.Status = r.Intn(300) - 20
		b.p.status = b.v.Status
	}
}

// P11.1 to P11.5: long runs of calls, on tables and their copies, each held against the chapter's words behind each call; what one call does no other table sees.
func TestRuns(t *testing.T) {
	names := []string{"", "1", "12", "#", "?", "@", "*", "1a", "a b", strings.Repeat("n", 64), strings.Repeat("n", 65), "a\n"}
	for _, v := range many(80) {
		names = append(names, v.Name)
	}
	for seed := range int64(8) {
		r := rand.New(rand.NewSource(seed))
		l := []both{{made(t, ""), &plain{values: map[string]string{}}}}
		for range 600 {
			b := l[r.Intn(len(l))]
			switch {
			case r.Intn(60) == 0:
				l = append(l, both{b.v.Copy(), b.p.copied()})
				l = l[max(0, len(l)-4):]
			case r.Intn(60) == 0: // so that the limit is met often
				for _, x := range many(api.MaxVars - 2) {
					if e, want := b.v.Set(x.Name, x.Value), b.p.set(x.Name, x.Value); e != want {
						t.Fatal(x, e, want)
					}
				}
			default:
				b.act(t, r, names)
			}
			for _, x := range l {
				x.alike(t, names)
			}
		}
	}
}

// P11.4: what all short names tell.
func TestShortNames(t *testing.T) {
	names := append(short.Texts("012#?@*a_ -+", 4), short.Texts("01a", 6)...)
	for _, args := range [][]string{nil, {""}, {"x", ""}, texts(12)} {
		b := both{made(t, "a=1 _=2 a_=3 _0=4 aa=5 a1=6", args...), &plain{map[string]string{"a": "1", "_": "2", "a_": "3", "_0": "4", "aa": "5", "a1": "6"}, args, 0}}
		b.v.Status, b.p.status = 41, 41
		b.alike(t, names)
	}
}

// P11.2: what all short names are set as.
func TestShortSet(t *testing.T) {
	for _, name := range short.Texts("a_Z09#@-\n\xff", 4) {
		v, p := made(t, "b=1"), &plain{values: map[string]string{"b": "1"}}
		if e, want := v.Set(name, "2"), p.set(name, "2"); e != want {
			t.Fatalf("Set(%q) = %d; want %d", name, e, want)
		}
		both{v, p}.alike(t, []string{name, "b"})
	}
}
