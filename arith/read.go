package arith

import "rehearsal/api"

// Parentheses, and signs ahead of something, that may stand within one another.
const mostDeep = 64

// reader reads what a text was cut into.
type reader struct {
	left []token
	deep int
}

// read makes of all that a text was cut into what is to be reckoned.
func read(l []token) (term, api.Errno) {
	r := reader{left: l}
	t, e := r.all()
	if e == api.OK && len(r.left) > 0 {
		e = api.ErrSyntax
	}
	return t, e
}

// next is what stands next; one without a sign, if nothing is left.
func (r *reader) next() token {
	if len(r.left) == 0 {
		return token{}
	}
	return r.left[0]
}

// take takes what stands next, if it is that sign.
func (r *reader) take(s sign) api.Errno {
	if len(r.left) == 0 || r.left[0].sign != s {
		return api.ErrSyntax
	}
	r.left = r.left[1:]
	return api.OK
}

// all reads what may stand alone: a name that is given something, or a condition.
func (r *reader) all() (term, api.Errno) {
	if len(r.left) < 2 || r.left[0].sign != name {
		return r.condition()
	}
	by, ok := r.left[1].gives()
	if !ok {
		return r.condition()
	}
	to := r.left[0].text
	r.left = r.left[2:]
	t, e := r.all()
	return gift{by, to, t}, e
}

// condition reads a condition.
func (r *reader) condition() (term, api.Errno) {
	t, e := r.pairs(loosest)
	if e != api.OK || r.take("?") != api.OK {
		return t, e
	}
	yes, e := r.all()
	if e != api.OK {
		return nil, e
	}
	if e = r.take(":"); e != api.OK {
		return nil, e
	}
	no, e := r.condition()
	return choice{t, yes, no}, e
}

// pairs reads parts with signs between that bind as tight as that, or tighter.
func (r *reader) pairs(tight int) (term, api.Errno) {
	if tight > tightest {
		return r.lead()
	}
	t, e := r.pairs(tight + 1)
	for e == api.OK && r.next().tight() == tight {
		s := r.next().sign
		r.left = r.left[1:]
		var right term
		right, e = r.pairs(tight + 1)
		t = pair{s, t, right}
	}
	return t, e
}

// lead reads a part with the signs ahead of it.
func (r *reader) lead() (term, api.Errno) {
	x := r.next()
	if x.sign != "(" && !x.leads() {
		return r.plain()
	}
	if r.deep == mostDeep {
		return nil, api.ErrDeep
	}
	r.deep++
	defer func() { r.deep-- }()
	r.left = r.left[1:]
	if x.leads() {
		t, e := r.lead()
		return led{x.sign, t}, e
	}
	t, e := r.all()
	if e != api.OK {
		return nil, e
	}
	return t, r.take(")")
}

// plain reads a number, or a name.
func (r *reader) plain() (term, api.Errno) {
	x := r.next()
	switch x.sign {
	case number:
		r.left = r.left[1:]
		return constant(x.n), api.OK
	case name:
		r.left = r.left[1:]
		return named(x.text), api.OK
	}
	return nil, api.ErrSyntax
}
