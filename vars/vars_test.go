package vars

import (
	"math"
	"slices"
	"strconv"
	"strings"
	"testing"

	"rehearsal/api"
)

// bytes is a text of n bytes.
func bytes(n int) string { return strings.Repeat("v", n) }

// many are n variables, by rising names.
func many(n int) []api.Var {
	var l []api.Var
	for i := range n {
		l = append(l, api.Var{Name: "v" + strconv.Itoa(100+i), Value: strconv.Itoa(i)})
	}
	return l
}

// texts are n parameters, 0 and so on.
func texts(n int) []string {
	var l []string
	for i := range n {
		l = append(l, strconv.Itoa(i))
	}
	return l
}

// made is a table of variables, each written with a = , and of parameters.
func made(t *testing.T, vars string, args ...string) *Table {
	t.Helper()
	v, e := New(listed(vars), args)
	if e != api.OK {
		t.Fatal(e)
	}
	return v
}

// listed are variables, each written with a = , with blanks between.
func listed(s string) []api.Var {
	var l []api.Var
	for _, x := range strings.Fields(s) {
		name, value, _ := strings.Cut(x, "=")
		l = append(l, api.Var{Name: name, Value: value})
	}
	return l
}

// holds checks all that a table tells by lists.
func holds(t *testing.T, v *Table, vars []api.Var, args []string) {
	t.Helper()
	if !slices.Equal(v.Vars(), vars) || !slices.Equal(v.Args(), args) {
		t.Errorf("it is %q, %q; want %q, %q", v.Vars(), v.Args(), vars, args)
	}
}

// gets checks what a table tells by names.
func gets(t *testing.T, v *Table, l map[string]string) {
	t.Helper()
	for name, want := range l {
		if s, ok := v.Get(name); s != want || !ok {
			t.Errorf("Get(%q) = %q, %v; want %q", name, s, ok, want)
		}
	}
}

// lacks checks that a table has nothing of some names.
func lacks(t *testing.T, v *Table, names ...string) {
	t.Helper()
	for _, name := range names {
		if s, ok := v.Get(name); s != "" || ok {
			t.Errorf("Get(%q) = %q, %v; want nothing", name, s, ok)
		}
	}
}

// P11.1: each variable is set, in order, and then the parameters.
func TestNew(t *testing.T) {
	holds(t, made(t, ""), nil, nil)
	holds(t, made(t, "b=1 a=2 b=3 _=4 B=5", "x", "", "x"), listed("B=5 _=4 a=2 b=3"), []string{"x", "", "x"})
	v := made(t, "a=1", "x")
	if v.Status != 0 {
		t.Error(v.Status)
	}
	lists := slices.Concat(many(api.MaxVars), many(api.MaxVars))
	v, e := New(lists, texts(api.MaxFields))
	if e != api.OK {
		t.Fatal(e)
	}
	holds(t, v, many(api.MaxVars), texts(api.MaxFields))
}

// P11.1: the first error of all, variables ahead of parameters; there is no table then.
func TestNewErrors(t *testing.T) {
	bad, full := api.Var{Name: "1"}, api.Var{Name: "a", Value: bytes(api.MaxData + 1)}
	for _, c := range []struct {
		vars []api.Var
		args []string
		want api.Errno
	}{
		{[]api.Var{bad}, nil, api.ErrName},
		{[]api.Var{full}, nil, api.ErrLimit},
		{[]api.Var{bad, full}, nil, api.ErrName},
		{[]api.Var{full, bad}, nil, api.ErrLimit},
		{[]api.Var{{Name: "a"}, bad}, texts(api.MaxFields + 1), api.ErrName},
		{append(many(api.MaxVars+1), bad), nil, api.ErrLimit},
		{append(many(api.MaxVars), bad), nil, api.ErrName},
		{many(api.MaxVars + 1), nil, api.ErrLimit},
		{many(api.MaxVars), texts(api.MaxFields + 1), api.ErrLimit},
		{nil, []string{bytes(api.MaxData + 1)}, api.ErrLimit},
	} {
		if v, e := New(c.vars, c.args); v != nil || e != c.want {
			t.Errorf("New(%d variables, %d parameters) = %v, %d; want error %d", len(c.vars), len(c.args), v, e, c.want)
		}
	}
}

// P11.1, P11.5: a copy has all alike, and nothing in common with what it was copied from.
func TestCopy(t *testing.T) {
	a := made(t, "a=1 c=3", "x", "y", "z")
	a.Status = 7
	b := a.Copy()
	c := b.Copy()
	holds(t, b, listed("a=1 c=3"), []string{"x", "y", "z"})
	if b.Status != 7 || c.Status != 7 {
		t.Error(b.Status, c.Status)
	}
	a.Set("a", "2")
	a.Set("b", "2")
	a.SetArgs([]string{"w"})
	a.Status = 8
	b.Unset("a")
	b.Set("z", "4")
	b.Shift(1)
	b.Status = -1
	holds(t, a, listed("a=2 b=2 c=3"), []string{"w"})
	holds(t, b, listed("c=3 z=4"), []string{"y", "z"})
	holds(t, c, listed("a=1 c=3"), []string{"x", "y", "z"})
	gets(t, a, map[string]string{"?": "8", "a": "2"})
	gets(t, b, map[string]string{"?": "-1", "z": "4"})
	gets(t, c, map[string]string{"?": "7", "a": "1"})
	lacks(t, b, "a")
	lacks(t, c, "b", "z")
	holds(t, made(t, "").Copy(), nil, nil)
}

// P11.2: a variable has the value that it was given last.
func TestSet(t *testing.T) {
	v := made(t, "")
	name, value := strings.Repeat("n", api.MaxName), bytes(api.MaxData)
	for _, x := range []api.Var{{Name: "b", Value: "1"}, {Name: "b", Value: ""}, {Name: "a", Value: "=\x00\xff\n"}, {Name: "_", Value: "$b"}, {Name: "A9", Value: " "}, {Name: name, Value: value}, {Name: "b", Value: value}} {
		if e := v.Set(x.Name, x.Value); e != api.OK {
			t.Error(x.Name, e)
		}
		gets(t, v, map[string]string{x.Name: x.Value})
	}
	holds(t, v, []api.Var{{Name: "A9", Value: " "}, {Name: "_", Value: "$b"}, {Name: "a", Value: "=\x00\xff\n"}, {Name: "b", Value: value}, {Name: name, Value: value}}, nil)
}

// P11.2: what is no name is told ahead of a value that is too long; nothing is changed by either.
func TestSetErrors(t *testing.T) {
	v := made(t, "a=1", "x")
	for _, name := range []string{"", "1", "1a", "a b", "a-", "-", "#", "?", "@", "*", "é", "a\x00", " a", "a\n", strings.Repeat("n", api.MaxName+1)} {
		for _, value := range []string{"", "1", bytes(api.MaxData + 1)} {
			if e := v.Set(name, value); e != api.ErrName {
				t.Errorf("Set(%q) = %d", name, e)
			}
		}
	}
	for _, name := range []string{"a", "b"} {
		if e := v.Set(name, bytes(api.MaxData+1)); e != api.ErrLimit {
			t.Errorf("Set(%q) = %d", name, e)
		}
	}
	holds(t, v, listed("a=1"), []string{"x"})
}

// P11.2: one variable more than there may be is not set; one that is there is, and another one, when one has gone.
func TestSetLimit(t *testing.T) {
	v, _ := New(many(api.MaxVars-1), nil)
	if e := v.Set("a", "first"); e != api.OK {
		t.Error(e)
	}
	for _, name := range []string{"A", "b", "z"} {
		if e := v.Set(name, ""); e != api.ErrLimit {
			t.Error(name, e)
		}
	}
	if e := v.Set("1", ""); e != api.ErrName {
		t.Error(e)
	}
	if e := v.Set("v100", "again"); e != api.OK {
		t.Error(e)
	}
	gets(t, v, map[string]string{"a": "first", "v100": "again", "v162": "62"})
	lacks(t, v, "A", "b", "z")
	v.Unset("v100")
	if e := v.Set("z", "last"); e != api.OK {
		t.Error(e)
	}
	gets(t, v, map[string]string{"z": "last"})
	if e := v.Set("v100", ""); e != api.ErrLimit || len(v.Vars()) != api.MaxVars {
		t.Error(e, v.Vars())
	}
}

// P11.2: none of a name is left, and all others are; a name that is none, or not there, changes nothing.
func TestUnset(t *testing.T) {
	v := made(t, "a=1 b=2 c=3", "x", "y")
	v.Status = 5
	for _, name := range []string{"", "d", "1", "#", "?", "@", "*", "A", "ab", strings.Repeat("n", 1000)} {
		v.Unset(name)
		holds(t, v, listed("a=1 b=2 c=3"), []string{"x", "y"})
	}
	for name, left := range map[string]string{"a": "b=2 c=3", "b": "a=1 c=3", "c": "a=1 b=2"} {
		w := v.Copy()
		w.Unset(name)
		lacks(t, w, name)
		holds(t, w, listed(left), []string{"x", "y"})
		w.Unset(name)
		holds(t, w, listed(left), []string{"x", "y"})
		if e := w.Set(name, "9"); e != api.OK || len(w.Vars()) != 3 {
			t.Error(e, w.Vars())
		}
		gets(t, w, map[string]string{name: "9", "?": "5"})
	}
}

// P11.3: the parameters are those of the last call that could be.
func TestSetArgs(t *testing.T) {
	v := made(t, "a=1", "old", "er")
	v.Status = 3
	for _, l := range [][]string{{"x"}, nil, {"", "", ""}, texts(api.MaxFields), {}, {bytes(api.MaxData), "\x00\xff"}} {
		if e := v.SetArgs(l); e != api.OK {
			t.Error(e)
		}
		holds(t, v, listed("a=1"), l)
		gets(t, v, map[string]string{"#": strconv.Itoa(len(l)), "?": "3"})
	}
	for _, l := range [][]string{texts(api.MaxFields + 1), {bytes(api.MaxData + 1)}, {"x", "", bytes(api.MaxData + 1)}, {bytes(api.MaxData + 1), "x"}} {
		if e := v.SetArgs(l); e != api.ErrLimit {
			t.Error(len(l), e)
		}
		holds(t, v, listed("a=1"), []string{bytes(api.MaxData), "\x00\xff"})
	}
}

// P11.3: so many as there are can go, and no others.
func TestShift(t *testing.T) {
	all := texts(5)
	for n := range 6 {
		v := made(t, "a=1", all...)
		for _, bad := range []int{-1, 6, math.MinInt, math.MaxInt} {
			if v.Shift(bad) {
				t.Error(bad)
			}
			holds(t, v, listed("a=1"), all)
		}
		if !v.Shift(n) {
			t.Error(n)
		}
		holds(t, v, listed("a=1"), all[n:])
		if v.Shift(5-n+1) || !v.Shift(0) {
			t.Error(n)
		}
		holds(t, v, listed("a=1"), all[n:])
		if !v.Shift(5-n) || v.Shift(1) || !v.Shift(0) {
			t.Error(n)
		}
		holds(t, v, listed("a=1"), nil)
	}
	if v := made(t, ""); v.Shift(1) || !v.Shift(0) {
		t.Error("nothing can go but nothing")
	}
}

// P11.3: variables rise by the bytes of their names.
func TestVars(t *testing.T) {
	v := made(t, "b=1 a_=2 a=3 _b=4 Z=5 a0=6 aa=7 aZ=8 A=9 __=10 _=11")
	holds(t, v, listed("A=9 Z=5 _=11 __=10 _b=4 a=3 a0=6 aZ=8 a_=2 aa=7 b=1"), nil)
}

// P11.4, and the chapter's example: what is told by names.
func TestGet(t *testing.T) {
	v := made(t, "a=1 empty= _9=two", "a", "b")
	v.Status = 127
	gets(t, v, map[string]string{"a": "1", "empty": "", "_9": "two", "#": "2", "?": "127", "@": "a b", "*": "a b", "1": "a", "2": "b", "02": "b", "00000000000000000000000000001": "a"})
	lacks(t, v, "", "0", "00", "3", "A", "b", "_", "empt", "emptyy", "$", "!", "-", "##", "??", "@@", "#1", "+1", "-1", "1a", "1 ", " 1", "0x1", "1e0", "é", "\x00", "\xff", "9223372036854775807", "9223372036854775808", "18446744073709551617", strings.Repeat("1", 1000))
	if !v.Shift(1) {
		t.Error("Shift")
	}
	gets(t, v, map[string]string{"1": "b", "#": "1", "@": "b", "*": "b", "a": "1", "?": "127"})
	lacks(t, v, "2")
	v.Shift(1)
	gets(t, v, map[string]string{"#": "0"})
	lacks(t, v, "1", "@", "*")
}

// P11.4: parameters that are empty are there.
func TestGetEmpty(t *testing.T) {
	gets(t, made(t, "", ""), map[string]string{"@": "", "*": "", "1": "", "#": "1"})
	gets(t, made(t, "", "", "", " "), map[string]string{"@": "   ", "*": "   ", "2": "", "3": " ", "#": "3"})
}

// P11.4: numbers of parameters have all their digits, and the status is any number.
func TestGetNumbers(t *testing.T) {
	v := made(t, "", texts(api.MaxFields)...)
	gets(t, v, map[string]string{"#": "256", "10": "9", "256": "255", "100": "99", "@": strings.Join(texts(api.MaxFields), " ")})
	lacks(t, v, "257", "0")
	for n, want := range map[int]string{0: "0", 255: "255", -3: "-3", math.MinInt: "-9223372036854775808", math.MaxInt: "9223372036854775807"} {
		v.Status = n
		gets(t, v, map[string]string{"?": want})
	}
}

// P11.1 to P11.4, and DOC.md, Ends: a table that is nil, or that no call made, answers ErrNil and zeros, and stays so.
func TestNone(t *testing.T) {
	for _, v := range []*Table{nil, {}, {Status: 7}} {
		for _, c := range []struct{ name, value string }{{"a", "1"}, {"1", ""}, {"a", bytes(api.MaxData + 1)}} {
			if e := v.Set(c.name, c.value); e != api.ErrNil {
				t.Error(c.name, e)
			}
		}
		for _, l := range [][]string{nil, {"x"}, texts(api.MaxFields + 1), {bytes(api.MaxData + 1)}} {
			if e := v.SetArgs(l); e != api.ErrNil {
				t.Error(len(l), e)
			}
		}
		v.Unset("a")
		if v.Shift(0) || v.Shift(1) || v.Shift(-1) || v.Copy() != nil {
			t.Error("what there isn't was shifted, or copied")
		}
		holds(t, v, nil, nil)
		lacks(t, v, "", "a", "#", "?", "@", "*", "0", "1")
	}
}

// DOC.md, Memory: what is handed in is neither changed nor kept, its spare room included.
func TestHandedIn(t *testing.T) {
	vars, args := append(listed("b=1 a=2"), listed("spare=3")...)[:2], append([]string{"x", "y"}, "spare")[:2]
	v, _ := New(vars, args)
	w := made(t, "")
	w.SetArgs(args)
	for _, x := range []*Table{v, w} {
		x.Set("c", "4")
		x.Unset("a")
		x.Set("b", "5")
		x.Shift(1)
	}
	if !slices.Equal(vars[:3], listed("b=1 a=2 spare=3")) || !slices.Equal(args[:3], []string{"x", "y", "spare"}) {
		t.Errorf("changed: %q, %q", vars[:3], args[:3])
	}
	v, _ = New(vars, args)
	w.SetArgs(args)
	vars[0], args[0], args[1] = api.Var{Name: "mine"}, "mine", "mine"
	holds(t, v, listed("a=2 b=1"), []string{"x", "y"})
	holds(t, w, listed("b=5 c=4"), []string{"x", "y"})
}

// DOC.md, Memory: what is told is new.
func TestToldAnew(t *testing.T) {
	v := made(t, "a=1 b=2 c=3", "x", "y", "z")
	v.Shift(1)
	v.Unset("b")
	spoil := func(vars []api.Var, args []string) {
		for i := range vars[:cap(vars)] {
			vars[:cap(vars)][i] = api.Var{Name: "mine"}
		}
		for i := range args[:cap(args)] {
			args[:cap(args)][i] = "mine"
		}
	}
	vars, args := v.Vars(), v.Args()
	spoil(v.Vars(), v.Args())
	holds(t, v, listed("a=1 c=3"), []string{"y", "z"})
	v.Set("a", "9")
	v.Set("b", "9")
	v.SetArgs([]string{"w", "w"})
	v.Shift(1)
	if !slices.Equal(vars, listed("a=1 c=3")) || !slices.Equal(args, []string{"y", "z"}) {
		t.Errorf("what was told has changed: %q, %q", vars, args)
	}
	holds(t, v, listed("a=9 b=9 c=3"), []string{"w"})
}
