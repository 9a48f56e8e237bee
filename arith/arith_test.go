package arith

import (
	"math"
	"math/rand"
	"slices"
	"strconv"
	"strings"
	"testing"
	"time"

	"rehearsal/api"
	"rehearsal/num"
)

// some are variables that examples reckon with.
var some = []api.Var{{Name: "x", Value: "5"}, {Name: "y", Value: "-3"}, {Name: "bad", Value: "abc"}, {Name: "no", Value: ""}}

// many are n variables, v0 = 0 and so on.
func many(n int) []api.Var {
	var l []api.Var
	for i := range n {
		l = append(l, api.Var{Name: "v" + strconv.Itoa(i), Value: strconv.Itoa(i)})
	}
	return l
}

// checkNumbers holds what texts come to against numbers; none may change a variable.
func checkNumbers(t *testing.T, l map[string]int) {
	t.Helper()
	for s, want := range l {
		if n, now, e := Eval(s, some); n != want || e != api.OK || !slices.Equal(now, some) {
			t.Errorf("Eval(%q) = %d, %v, %d; want %d", s, n, now, e, want)
		}
	}
}

// checkFaults holds what texts come to against errors; beside them all is zero.
func checkFaults(t *testing.T, l map[string]api.Errno) {
	t.Helper()
	for s, want := range l {
		if n, now, e := Eval(s, some); n != 0 || now != nil || e != want {
			t.Errorf("Eval(%.80q) = %d, %v, %d; want error %d", s, n, now, e, want)
		}
	}
}

// P10.1: the chapter's examples.
func TestExamples(t *testing.T) {
	checkNumbers(t, map[string]int{"1+2*3": 7, "1||(y=2)": 1, "7/-2": -3, "010+0x10": 24})
	if n, now, e := Eval("x=5", nil); n != 5 || e != api.OK || !slices.Equal(now, []api.Var{{Name: "x", Value: "5"}}) {
		t.Error(n, now, e)
	}
}

// P10.1: how a text is cut.
func TestCut(t *testing.T) {
	checkNumbers(t, map[string]int{
		" \t\n1\n+\t2 ": 3, "$x": 5, "$x+$y": 2, " $x ": 5, "-$x": -5, "($x)": 5, "_": 0, "$_": 0, "a1_Z": 0,
		"1<<2": 4, "1<2": 1, "1<=2": 1, "1&&2": 1, "1&2": 0, "1||2": 1, "1|2": 3, "5!=x": 0, "!x": 0, "1<-1": 0,
		"1<<-0": 1, "1- -1": 2, "1--1": 2, "1---1": 0, "-+-1": 1, "!~-1": 1, "x==5": 1, "x- -y": 2, "2*-3": -6,
		"0": 0, "00": 0, "07": 7, "0x0": 0, "0XfF": 255, "9223372036854775807": math.MaxInt64, "0x7fffffffffffffff": math.MaxInt64,
	})
	checkFaults(t, map[string]api.Errno{
		"$": api.ErrSyntax, "$1": api.ErrSyntax, "$ x": api.ErrSyntax, "$$x": api.ErrSyntax, "x$": api.ErrSyntax, "$(x)": api.ErrSyntax, "${x}": api.ErrSyntax,
		"x$y": api.ErrSyntax, "1$x": api.ErrSyntax, "x y": api.ErrSyntax, "1 2": api.ErrSyntax, "x 1": api.ErrSyntax,
		"a.b": api.ErrSyntax, "1,2": api.ErrSyntax, "1;": api.ErrSyntax, "'1'": api.ErrSyntax, "\"1\"": api.ErrSyntax, "1\r": api.ErrSyntax, "\x00": api.ErrSyntax, "\xc3\xa4": api.ErrSyntax, "1\\\n": api.ErrSyntax, "@": api.ErrSyntax, "1#2": api.ErrSyntax, "[1]": api.ErrSyntax,
		"1&&&2": api.ErrSyntax, "x<<==1": api.ErrSyntax, "x===5": api.ErrSyntax, "x= =5": api.ErrSyntax, "x + =5": api.ErrSyntax, "1< <2": api.ErrSyntax, "1& &2": api.ErrSyntax, "! =5": api.ErrSyntax, "x++": api.ErrSyntax, "2**3": api.ErrSyntax,
		"1a": api.ErrNumber, "08": api.ErrNumber, "0x": api.ErrNumber, "0xg": api.ErrNumber, "1_000": api.ErrNumber, "0b1": api.ErrNumber,
		"9223372036854775808": api.ErrRange, "-9223372036854775808": api.ErrRange, "0xffffffffffffffff": api.ErrRange,
	})
}

// P10.1: what can't be cut comes ahead of what is not so by the grammar, and of what is reckoned; the first of it counts.
func TestFirstFault(t *testing.T) {
	long := strings.Repeat("n", 65)
	checkFaults(t, map[string]api.Errno{
		"1 2 08": api.ErrNumber, "1/0+": api.ErrSyntax, ") .": api.ErrSyntax, ") 08": api.ErrNumber, ". 08": api.ErrSyntax, "08 .": api.ErrNumber,
		"08 9223372036854775808": api.ErrNumber, "9223372036854775808 08": api.ErrRange, "9223372036854775808 .": api.ErrRange, ". 9223372036854775808": api.ErrSyntax,
		long: api.ErrSyntax, long + " 08": api.ErrSyntax, "08 " + long: api.ErrNumber, "0&&08": api.ErrNumber, "1||" + long: api.ErrSyntax,
		strings.Repeat("(", 65) + " 08": api.ErrNumber, "1/0 08": api.ErrNumber, "bad+": api.ErrSyntax,
	})
	checkNumbers(t, map[string]int{long[:64]: 0, "$" + long[:64]: 0})
	if n, now, e := Eval(long[:64]+"=7", nil); n != 7 || e != api.OK || now[0].Name != long[:64] {
		t.Error(n, now, e)
	}
}

// P10.1: what binds tighter, and how things are grouped.
func TestGroups(t *testing.T) {
	checkNumbers(t, map[string]int{
		"10-3-2": 5, "100/10/5": 2, "100/10*5": 50, "7%4*2": 6, "2+3*4-1": 13, "(2+3)*4": 20, "1<<2+1": 8, "1<<2<<3": 32, "256>>2>>1": 32, "2-1<<1": 2,
		"3>2>1": 0, "1<2<3": 1, "1<<1>1": 1, "3>=3==1": 1, "1==1==1": 1, "2==2!=0": 1, "5&4==4": 1, "6^3&2": 4, "1|6^4": 3, "8|1&&0": 0, "0&&0||1": 1, "1||0&&0": 1, "0||0": 0, "2||3": 1, "2&&3": 1,
		"1?2:3": 2, "0?2:3": 3, "0?1:0?2:3": 3, "1?0?4:5:6": 5, "1?1?2:3:4": 2, "0||1?7:8": 7, "1?2:3+10": 2, "0?2:3+10": 13,
		"-x*2": -10, "-(x)": -5, "!x+1": 1, "!(x+1)": 0, "~x&15": 10, "- - x": 5, "!!x": 1, "~~x": 5, "+x": 5, "-1>>1": -1, "-8>>1": -4, "((((x))))": 5,
	})
	checkFaults(t, map[string]api.Errno{
		"1+": api.ErrSyntax, "*1": api.ErrSyntax, "1**2": api.ErrSyntax, "(": api.ErrSyntax, ")": api.ErrSyntax, "()": api.ErrSyntax, "(1": api.ErrSyntax, "1)": api.ErrSyntax, "(1)(2)": api.ErrSyntax, "x(1)": api.ErrSyntax, "1(": api.ErrSyntax, "-": api.ErrSyntax, "!": api.ErrSyntax, "1!": api.ErrSyntax, "1~2": api.ErrSyntax, "1!2": api.ErrSyntax,
		"1?2": api.ErrSyntax, "1?2:": api.ErrSyntax, "1?:2": api.ErrSyntax, "?1:2": api.ErrSyntax, "1:2": api.ErrSyntax, "1?2:3:4": api.ErrSyntax, "1?2?3:4": api.ErrSyntax, "(1?2):3": api.ErrSyntax,
		"1=2": api.ErrSyntax, "=2": api.ErrSyntax, "x=": api.ErrSyntax, "(x)=2": api.ErrSyntax, "-x=2": api.ErrSyntax, "x+y=2": api.ErrSyntax, "1||y=2": api.ErrSyntax, "1?2:x=3": api.ErrSyntax, "1+=2": api.ErrSyntax, "x=1=2": api.ErrSyntax, "x=y+u=2": api.ErrSyntax, "x&&=1": api.ErrSyntax, "x!=": api.ErrSyntax,
	})
}

// P10.1: each sign that stands between two numbers, and each ahead of one, at the ends of the range, too.
func TestSigns(t *testing.T) {
	l := []int{math.MinInt64, math.MinInt64 + 1, -1 << 32, -64, -63, -7, -3, -2, -1, 0, 1, 2, 3, 7, 10, 62, 63, 64, 65, 1 << 31, 1 << 62, math.MaxInt64 - 1, math.MaxInt64}
	for _, a := range l {
		for _, b := range l {
			vars := []api.Var{{Name: "a", Value: strconv.Itoa(a)}, {Name: "b", Value: strconv.Itoa(b)}}
			for _, level := range levels {
				for _, s := range strings.Fields(level) {
					checkPlainly(t, "a"+s+"b", vars)
				}
			}
			for _, s := range strings.Fields("= += -= *= /= %= <<= >>= &= ^= |=") {
				checkPlainly(t, "a"+s+"b", vars)
			}
		}
		for _, s := range []string{"+", "-", "!", "~"} {
			checkPlainly(t, s+"a", []api.Var{{Name: "a", Value: strconv.Itoa(a)}})
		}
	}
	checkNumbers(t, map[string]int{"-7/2": -3, "-7%3": -1, "7%-3": 1, "-7/-2": 3, "9223372036854775807+1": math.MinInt64, "-9223372036854775807-2": math.MaxInt64, "9223372036854775807*2": -2,
		"(-9223372036854775807-1)/-1": math.MinInt64, "(-9223372036854775807-1)%-1": 0, "-(-9223372036854775807-1)": math.MinInt64, "1<<62<<1": math.MinInt64, "3<<63": math.MinInt64, "1<<63>>63": -1, "1<<0": 1, "5>>0": 5})
	checkFaults(t, map[string]api.Errno{"1/0": api.ErrDivide, "1%0": api.ErrDivide, "0/0": api.ErrDivide, "1<<64": api.ErrRange, "1>>64": api.ErrRange, "1<<-1": api.ErrRange, "1>>-1": api.ErrRange, "x/=0": api.ErrDivide, "x%=no": api.ErrDivide, "x<<=64": api.ErrRange, "x>>=y": api.ErrRange})
}

// P10.1: what a name stands for.
func TestNames(t *testing.T) {
	for value, want := range map[string]int{
		"": 0, "7": 7, "-7": -7, "+7": 7, "010": 10, "-010": -10, "08": 8, "0x1F": 31, "0": 0,
		"9223372036854775807": math.MaxInt64, "-9223372036854775808": math.MinInt64, "0777777777777777777777": math.MaxInt64,
	} {
		vars := []api.Var{{Name: "v", Value: value}}
		if n, now, e := Eval("v", vars); n != want || e != api.OK || !slices.Equal(now, vars) {
			t.Errorf("v = %q: %d, %v, %d; want %d", value, n, now, e, want)
		}
	}
	for value, want := range map[string]api.Errno{
		" ": api.ErrNumber, "5 ": api.ErrNumber, "abc": api.ErrNumber, "x": api.ErrNumber, "1+1": api.ErrNumber, "-0x1": api.ErrNumber, "--1": api.ErrNumber, "0x": api.ErrNumber, "+": api.ErrNumber,
		"9223372036854775808": api.ErrRange, "-9223372036854775809": api.ErrNumber, "0x8000000000000000": api.ErrRange, "01000000000000000000000": api.ErrRange,
	} {
		if n, now, e := Eval("v", []api.Var{{Name: "v", Value: value}}); n != 0 || now != nil || e != want {
			t.Errorf("v = %q: %d, %v, %d; want error %d", value, n, now, e, want)
		}
	}
	twice := []api.Var{{Name: "v", Value: "1"}, {Name: "v", Value: "2"}, {Name: "", Value: "3"}, {Name: "V", Value: "4"}}
	if n, now, e := Eval("v*10+V", twice); n != 14 || e != api.OK || !slices.Equal(now, twice) {
		t.Error(n, now, e)
	}
}

// giving is a text that gives variables numbers, and what comes of it.
type giving struct {
	s    string
	want int
	now  string
}

// P10.1: what is given to names, in their places, or behind all others; what comes first.
func TestGifts(t *testing.T) {
	for _, c := range []giving{
		{"x=7", 7, "x=7 y=-3 bad=abc no="},
		{"y=x", 5, "x=5 y=5 bad=abc no="},
		{"z=x+1", 6, "x=5 y=-3 bad=abc no= z=6"},
		{"b=1,", 0, ""},
		{"b=2+(a=1)", 3, "x=5 y=-3 bad=abc no= a=1 b=3"},
		{"x=y=4", 4, "x=4 y=4 bad=abc no="},
		{"bad=1", 1, "x=5 y=-3 bad=1 no="},
		{"bad=bad=1", 1, "x=5 y=-3 bad=1 no="},
		{"no+=1", 1, "x=5 y=-3 bad=abc no=1"},
		{"u*=3", 0, "x=5 y=-3 bad=abc no= u=0"},
		{"x+=x=3", 6, "x=6 y=-3 bad=abc no="},
		{"x-=x-=2", 0, "x=0 y=-3 bad=abc no="},
		{"bad+=bad=3", 6, "x=5 y=-3 bad=6 no="},
		{"x=010", 8, "x=8 y=-3 bad=abc no="},
		{"x=(y=1)+y*10", 11, "x=11 y=1 bad=abc no="},
		{"y*10+(y=1)", -29, "x=5 y=1 bad=abc no="},
		{"x?y=1:2", 1, "x=5 y=1 bad=abc no="},
		{"x=0?1:2", 2, "x=2 y=-3 bad=abc no="},
		{"x=x==5", 1, "x=1 y=-3 bad=abc no="},
		{"x=-1", -1, "x=-1 y=-3 bad=abc no="},
		{"$x=1", 1, "x=1 y=-3 bad=abc no="},
		{"x<<=2", 20, "x=20 y=-3 bad=abc no="},
		{"x>>=1", 2, "x=2 y=-3 bad=abc no="},
		{"x^=1", 4, "x=4 y=-3 bad=abc no="},
		{"x|=2", 7, "x=7 y=-3 bad=abc no="},
		{"x&=4", 4, "x=4 y=-3 bad=abc no="},
		{"x/=y", -1, "x=-1 y=-3 bad=abc no="},
		{"x%=y", 2, "x=2 y=-3 bad=abc no="},
	} {
		n, now, _ := Eval(c.s, some)
		var l []string
		for _, v := range now {
			l = append(l, v.Name+"="+v.Value)
		}
		if got := strings.Join(l, " "); n != c.want || got != c.now {
			t.Errorf("Eval(%q) = %d, %s; want %d, %s", c.s, n, got, c.want, c.now)
		}
	}
	twice := []api.Var{{Name: "v", Value: "1"}, {Name: "v", Value: "2"}}
	if n, now, e := Eval("v+=5", twice); n != 6 || e != api.OK || !slices.Equal(now, []api.Var{{Name: "v", Value: "6"}, {Name: "v", Value: "2"}}) {
		t.Error(n, now, e)
	}
}

// P10.1: what doesn't matter is not reckoned: neither its errors nor what it gives are there.
func TestLeftOut(t *testing.T) {
	checkNumbers(t, map[string]int{
		"0&&bad": 0, "0&&1/0": 0, "0&&(x=1)": 0, "1||bad": 1, "5||1/0": 1, "1||(x=1)": 1, "1?2:bad": 2, "0?bad:2": 2, "1?2:1/0": 2, "0?x=1:2": 2, "1||0&&bad": 1, "0&&1<<64": 0, "(1||bad)&&2": 1, "1||bad||bad": 1, "0&&bad&&bad": 0, "0&&bad||3": 1,
	})
	checkFaults(t, map[string]api.Errno{
		"1&&bad": api.ErrNumber, "0||1/0": api.ErrDivide, "0?1:bad": api.ErrNumber, "1?bad:1": api.ErrNumber, "bad?1:2": api.ErrNumber, "bad&&0": api.ErrNumber, "bad||1": api.ErrNumber, "1||0&&": api.ErrSyntax, "0&&(1": api.ErrSyntax,
	})
}

// P10.1: the first error as it is reckoned: the left part ahead of the right one, but the part that is given ahead of the name.
func TestFirstReckoned(t *testing.T) {
	checkFaults(t, map[string]api.Errno{
		"bad+1/0": api.ErrNumber, "1/0+bad": api.ErrDivide, "1/0+(1<<64)": api.ErrDivide, "(1<<64)+1/0": api.ErrRange, "bad/0": api.ErrNumber, "1/0/bad": api.ErrDivide, "bad<<64": api.ErrNumber, "-bad": api.ErrNumber, "!bad": api.ErrNumber,
		"bad+=1/0": api.ErrDivide, "bad/=0": api.ErrNumber, "bad<<=64": api.ErrNumber, "bad+=1": api.ErrNumber, "x=bad": api.ErrNumber, "(x=1)+bad": api.ErrNumber, "1/0==1/0": api.ErrDivide,
	})
}

// P10.1: nothing is 0, and the variables as they are.
func TestNothing(t *testing.T) {
	checkNumbers(t, map[string]int{"": 0, " ": 0, "\n\t ": 0, strings.Repeat(" ", api.MaxText): 0})
	if n, now, e := Eval("", nil); n != 0 || len(now) != 0 || e != api.OK {
		t.Error(n, now, e)
	}
}

// P10.1: how long a text may be, and how many variables there may be, ahead of all else.
func TestLimits(t *testing.T) {
	full := strings.Repeat("1+", api.MaxText/2-1) + " 1"
	if n, _, e := Eval(full, many(64)); len(full) != api.MaxText || n != api.MaxText/2 || e != api.OK {
		t.Error(n, e)
	}
	checkFaults(t, map[string]api.Errno{full + " ": api.ErrLimit, strings.Repeat(" ", api.MaxText+1): api.ErrLimit, strings.Repeat(".", api.MaxText+1): api.ErrLimit})
	for _, s := range []string{"", "1", ".", "1+", "08", "1/0"} {
		if n, now, e := Eval(s, many(65)); n != 0 || now != nil || e != api.ErrLimit {
			t.Error(s, n, now, e)
		}
	}
}

// P10.1: a variable more than there may be is given nothing; one that is there is.
func TestVariableMore(t *testing.T) {
	for _, s := range []string{"u=1", "u+=1", "v0=u=1", "1+(u=1)"} {
		if n, now, e := Eval(s, many(64)); n != 0 || now != nil || e != api.ErrLimit {
			t.Error(s, n, now, e)
		}
	}
	if _, now, e := Eval("(a=1)+(b=2)", many(63)); now != nil || e != api.ErrLimit {
		t.Error(now, e)
	}
	if _, now, e := Eval("(a=1)+(a=2)", many(63)); len(now) != 64 || now[63].Value != "2" || e != api.OK {
		t.Error(now, e)
	}
	for s, want := range map[string]api.Errno{"u=1/0": api.ErrDivide, "u/=0": api.ErrDivide, "u=v1": api.ErrLimit, "u": api.OK, "v63=9": api.OK, "0&&(u=1)": api.OK} {
		if _, _, e := Eval(s, many(64)); e != want {
			t.Error(s, e)
		}
	}
}

// P10.1: how deep parentheses, and signs ahead of something, may stand within one another; what comes first from the left counts.
func TestDeep(t *testing.T) {
	in := func(n int, s string) string { return strings.Repeat("(", n) + s + strings.Repeat(")", n) }
	signs := func(n int) string { return strings.Repeat("-", n) }
	checkNumbers(t, map[string]int{
		in(64, "x"): 5, signs(64) + "x": 5, in(32, signs(32)+"x"): 5, signs(32) + in(32, "x"): 5, in(64, "x") + "+" + in(64, "x"): 10, signs(64) + "x+" + signs(64) + "x": 10, in(63, "-x+-x*(x)"): -30, strings.Repeat("-(", 32) + "x" + strings.Repeat(")", 32): 5,
		in(64, "1?2:3"): 2, strings.Repeat("1?", 2000) + "7" + strings.Repeat(":0", 2000): 7, strings.Repeat("0?1:", 2000) + "7": 7,
		"x" + strings.Repeat("==x", 1000): 0, "1" + strings.Repeat("+(1)", 1000): 1001, "1" + strings.Repeat("- -1", 1000): 1001,
	})
	checkFaults(t, map[string]api.Errno{
		in(65, "x"): api.ErrDeep, signs(65) + "x": api.ErrDeep, in(64, "-x"): api.ErrDeep, signs(64) + "(x)": api.ErrDeep, in(32, signs(33)+"x"): api.ErrDeep, "1+" + in(65, "x"): api.ErrDeep, "0&&" + in(65, "x"): api.ErrDeep, strings.Repeat("!(", 32) + "~x": api.ErrDeep, in(64, "x=(1)"): api.ErrDeep,
		strings.Repeat("(", 64): api.ErrSyntax, strings.Repeat("(", 65): api.ErrDeep, strings.Repeat("(", 4000): api.ErrDeep, signs(64): api.ErrSyntax, signs(8000): api.ErrDeep,
		"1 2 " + in(65, "x"): api.ErrSyntax, in(65, "x") + ")": api.ErrDeep, in(65, "x") + " 1": api.ErrDeep, "1?" + in(65, "x"): api.ErrDeep, "1?2 " + in(65, "x"): api.ErrSyntax, "1=" + in(65, "x"): api.ErrSyntax, in(64, "1(") + ")": api.ErrSyntax, "bad+" + in(65, "x"): api.ErrDeep, "1/0+" + in(65, "x"): api.ErrDeep, in(64, "") + "(": api.ErrSyntax,
	})
	if n, now, e := Eval(strings.Repeat("u=", 4000)+"3", nil); n != 3 || len(now) != 1 || e != api.OK {
		t.Error(n, now, e)
	}
}

// P10.1: it ends soon.
func TestSoon(t *testing.T) {
	begin := time.Now()
	for _, s := range []string{strings.Repeat("v63+", 2000) + "1", strings.Repeat("v63=", 2000) + "1", strings.Repeat("(", 8000), strings.Repeat("1?", 4000), strings.Repeat("1", 8192), strings.Repeat("a", 8192), strings.Repeat("((((1)))) ", 800)} {
		Eval(s, many(64))
	}
	if d := time.Since(begin); d > 5*time.Second {
		t.Error(d)
	}
}

// DOC.md, Memory: what is handed in is not changed, its spare room included; what is answered is new.
func TestMemory(t *testing.T) {
	room := append(many(3), api.Var{Name: "spare", Value: "1"})
	for _, s := range []string{"", "v0=9", "u=9", "v0", "(u=1)/0"} {
		in := room[:3]
		_, now, _ := Eval(s, in)
		if !slices.Equal(in, many(3)) || room[3].Name != "spare" {
			t.Fatalf("Eval(%q) changed what it was given: %v", s, room)
		}
		for i := range now {
			now[i] = api.Var{Name: "mine"}
		}
		_ = append(now, api.Var{Name: "mine"})
		if !slices.Equal(in, many(3)) || room[3].Name != "spare" {
			t.Fatalf("Eval(%q) handed out what it was given: %v", s, room)
		}
	}
}

// P10.2: sums and products go round alike however they are grouped; what is in parentheses is what it is alone.
func TestGoRound(t *testing.T) {
	l := []int{math.MinInt64, -1 << 33, -7, 0, 3, 1 << 40, math.MaxInt64}
	for _, a := range l {
		for _, b := range l {
			for _, c := range l {
				vars := []api.Var{{Name: "a", Value: num.Text(a)}, {Name: "b", Value: num.Text(b)}, {Name: "c", Value: num.Text(c)}}
				for _, s := range []string{"+", "*"} {
					n, _, e := Eval("(a"+s+"b)"+s+"c", vars)
					for _, other := range []string{"a" + s + "(b" + s + "c)", "a" + s + "b" + s + "c", "c" + s + "(b" + s + "a)"} {
						if m, _, f := Eval(other, vars); n != m || e != api.OK || f != api.OK {
							t.Errorf("%s of %v = %d, %d; grouped the other way %d, %d", other, vars, m, f, n, e)
						}
					}
				}
			}
		}
	}
	m := maker{rand.New(rand.NewSource(11))}
	for range 3000 {
		s := m.all(3)
		n, now, e := Eval(s, modelVars)
		if k, then, f := Eval("("+s+")", modelVars); n != k || e != f || !slices.Equal(now, then) {
			t.Errorf("(%s) = %d, %v, %d; alone %d, %v, %d", s, k, then, f, n, now, e)
		}
	}
}
