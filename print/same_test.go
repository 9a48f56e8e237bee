package print

import (
	"fmt"
	"reflect"
	"slices"
	"strings"
	"testing"

	"rehearsal/api"
)

// show tells all that lists are; nil and empty ones are alike.
func show(l []api.List) string { return strings.ReplaceAll(fmt.Sprintf("%#v", l), "(nil)", "{}") }

// all is a script with something in every field.
const all = "x=1$y z= a \"$b\" ${w:-u$v} $(c) $((1)) >f 2<&3 && ! b | c; for i in a b; do c; done; while a; do b; done || until b; do c; done; case x in a|b) c;; d) esac; if a; then b; else c; fi; f() { (a) } >b"

// spots are all values in a value, and the value itself.
func spots(v reflect.Value) []reflect.Value {
	l := []reflect.Value{v}
	switch v.Kind() {
	case reflect.Slice:
		for i := range v.Len() {
			l = append(l, spots(v.Index(i))...)
		}
	case reflect.Struct:
		for i := range v.NumField() {
			l = append(l, spots(v.Field(i))...)
		}
	}
	return l
}

// changes are what a value may be changed to.
func changes(v reflect.Value) []reflect.Value {
	switch v.Kind() {
	case reflect.String:
		l := []reflect.Value{reflect.ValueOf(v.String() + "?")}
		if v.Len() > 0 {
			l = append(l, reflect.ValueOf(v.String()[1:]), reflect.ValueOf("?"+v.String()[1:]))
		}
		return l
	case reflect.Int:
		return []reflect.Value{reflect.ValueOf(int(v.Int()) + 1), reflect.ValueOf(-1 - int(v.Int()))}
	case reflect.Bool:
		return []reflect.Value{reflect.ValueOf(!v.Bool())}
	case reflect.Slice:
		longer := reflect.Append(v.Slice3(0, v.Len(), v.Len()), reflect.Zero(v.Type().Elem()))
		if v.Len() == 0 {
			return []reflect.Value{longer}
		}
		return []reflect.Value{longer, v.Slice(0, v.Len()-1), v.Slice(1, v.Len())}
	}
	return nil
}

// P9.1: whatever is changed in lists, they are others then.
func TestSameChanged(t *testing.T) {
	l, want := parse(t, all), parse(t, all)
	if !Same(l, want) || !Same(want, l) {
		t.Fatal("not the same")
	}
	n := 0
	for _, v := range spots(reflect.ValueOf(&l).Elem()) {
		was := reflect.New(v.Type()).Elem()
		was.Set(v)
		for _, c := range changes(was) {
			v.Set(c)
			n++
			if Same(l, want) || Same(want, l) {
				t.Errorf("the same: %+v", l)
			}
		}
		v.Set(was)
	}
	if !Same(l, want) || n < 500 {
		t.Error(n)
	}
}

// P9.1: of many lists each is the same as itself alone; nil and empty lists are alike.
func TestSame(t *testing.T) {
	scripts := []string{"", "a", "b", "a;a", "a&&a", "a||a", "a|a", "! a", "'a'", "$a", "x=a", ">a", ">>a", "2>a", "<a", "a a", "(a)", "{ a; }", "if a; then b; fi", "while a; do b; done", "until a; do b; done", "for a in b; do c; done", "for b in b; do c; done", "case a in b) c;; esac", "case a in b);; esac", "f() { a; }", "g() { a; }", all}
	for i, a := range scripts {
		for j, b := range scripts {
			if got := Same(parse(t, a), parse(t, b)); got != (i == j) {
				t.Errorf("Same of %q and %q: %v", a, b, got)
			}
		}
	}
	empty := parse(t, "a")
	c := &empty[0].Pipes[0].Cmds[0]
	empty[0].Ops, c.Assigns, c.Cond, c.Body, c.Other, c.Cases, c.Redirs, c.Words[0][0].Word = []string{}, []api.Assign{}, []api.List{}, []api.List{}, []api.List{}, []api.Case{}, []api.Redir{}, []api.Part{}
	if !Same(empty, parse(t, "a")) || !Same(parse(t, "a"), empty) || !Same(nil, []api.List{}) || !Same([]api.List{}, nil) || !Same(nil, nil) || Same(nil, []api.List{{}}) {
		t.Error("nil and empty lists aren't alike")
	}
	if s, e := Print(empty); s != "a\n" || e != api.OK {
		t.Errorf("%q, %d", s, e)
	}
	if !Same([]api.List{{}}, []api.List{{}}) {
		t.Error("what no script is isn't the same as itself")
	}
}

// Rule Memory: what is handed in is not changed, its spare room included.
func TestMemory(t *testing.T) {
	full := parse(t, all)
	l := append(slices.Grow([]api.List{}, 2*len(full)+1), full...)
	room := l[:cap(l)]
	for i := len(l); i < len(room); i++ {
		room[i].Ops = []string{"?"}
	}
	before := show(room)
	Print(l)
	Print(l[:1])
	Same(l, parse(t, all))
	if got := show(room); got != before {
		t.Errorf("%s\nbecame\n%s", before, got)
	}
}
