package match

import "strings"

// The kinds of parts: a byte that stands for itself, one byte of a set, any bytes.
const (
	itself = iota
	oneOf
	many
)

// part is a part of a pattern.
type part struct {
	kind int
	sign byte // of the kind itself
	set  set  // of the kind oneOf
}

// fits tells whether a byte is what a part says, which stands for one byte.
func (x part) fits(c byte) bool {
	if x.kind == itself {
		return x.sign == c
	}
	return x.set.has(c)
}

// parts reads a pattern.
func parts(p string) []part {
	var l []part
	r := reader{left: p}
	for r.left != "" {
		l = append(l, r.part())
	}
	return l
}

// reader reads a pattern from the left.
type reader struct {
	left string
	bare bool // No ] that ends a set is left: it need not be looked for at each [ again.
}

// part reads the part that what is left begins with; something is left.
func (r *reader) part() part {
	switch r.left[0] {
	case '*':
		r.left = r.left[1:]
		return part{kind: many}
	case '?':
		r.left = r.left[1:]
		return part{kind: oneOf, set: set{}.others()}
	case '[':
		if x, ok := r.set(); ok {
			return part{kind: oneOf, set: x}
		}
		fallthrough
	default:
		c, n := sign(r.left)
		r.left = r.left[n:]
		return part{kind: itself, sign: c}
	}
}

// set reads a set, if the [ that what is left begins with begins one.
func (r *reader) set() (set, bool) {
	if r.bare {
		return set{}, false
	}
	behind, not := strings.CutPrefix(r.left[1:], "!")
	end := ending(behind)
	if end < 0 {
		r.bare = true
		return set{}, false
	}
	r.left = behind[end+1:]
	x := signs(behind[:end])
	if not {
		x = x.others()
	}
	return x, true
}

// ending finds the ] that ends a set among the bytes behind its beginning; where there is none, it answers -1.
func ending(s string) int {
	for at := 0; at < len(s); {
		if s[at] == ']' && at > 0 {
			return at
		}
		_, n := sign(s[at:])
		at += n
	}
	return -1
}

// signs reads what stands in a set.
func signs(s string) set {
	var x set
	for s != "" {
		from, n := sign(s)
		s = s[n:]
		to := from
		// A - that stands last has nothing to lead to.
		if len(s) > 1 && s[0] == '-' {
			to, n = sign(s[1:])
			s = s[1+n:]
		}
		x.add(from, to)
	}
	return x
}

// sign reads the byte that a text begins with, which a \ may stand ahead of, and tells how many bytes that is.
func sign(s string) (byte, int) {
	if s[0] == '\\' && len(s) > 1 {
		return s[1], 2
	}
	return s[0], 1
}

// set is a set of bytes: a bit for each.
type set [4]uint64

// add adds all bytes from one to another.
func (x *set) add(from, to byte) {
	for c := int(from); c <= int(to); c++ {
		x[c/64] |= 1 << (c % 64)
	}
}

// has tells whether a byte is one of the set.
func (x set) has(c byte) bool {
	return x[c/64]>>(c%64)&1 == 1
}

// others are the bytes that are not in the set.
func (x set) others() set {
	for i := range x {
		x[i] = ^x[i]
	}
	return x
}
