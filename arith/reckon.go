package arith

import "rehearsal/api"

// term is something that is reckoned.
type term interface {
	reckon(v *values) (int, api.Errno)
}

// constant is a number.
type constant int

// named is a name that stands for a number.
type named string

// led is a part with a sign ahead of it.
type led struct {
	sign
	part term
}

// pair is two parts with a sign between them.
type pair struct {
	sign
	left, right term
}

// gift is a name that is given something; the sign is what stands ahead of the = .
type gift struct {
	sign
	name string
	part term
}

// choice is one of two parts, as a third one says.
type choice struct {
	by, yes, no term
}

func (c constant) reckon(v *values) (int, api.Errno) {
	return int(c), api.OK
}

func (x named) reckon(v *values) (int, api.Errno) {
	return v.number(string(x))
}

func (x led) reckon(v *values) (int, api.Errno) {
	n, e := x.part.reckon(v)
	if e != api.OK {
		return 0, e
	}
	return x.of(n), api.OK
}

func (x pair) reckon(v *values) (int, api.Errno) {
	a, e := x.left.reckon(v)
	if e != api.OK {
		return 0, e
	}
	if x.settled(a) {
		return truth(a != 0), api.OK
	}
	b, e := x.right.reckon(v)
	if e != api.OK {
		return 0, e
	}
	return x.between(a, b)
}

func (x choice) reckon(v *values) (int, api.Errno) {
	n, e := x.by.reckon(v)
	if e != api.OK {
		return 0, e
	}
	if n != 0 {
		return x.yes.reckon(v)
	}
	return x.no.reckon(v)
}

// The part comes first: what it gives the name counts, too.
func (x gift) reckon(v *values) (int, api.Errno) {
	n, e := x.part.reckon(v)
	if e != api.OK {
		return 0, e
	}
	if x.sign != none {
		old, e := v.number(x.name)
		if e != api.OK {
			return 0, e
		}
		if n, e = x.between(old, n); e != api.OK {
			return 0, e
		}
	}
	if e = v.give(x.name, n); e != api.OK {
		return 0, e
	}
	return n, api.OK
}
