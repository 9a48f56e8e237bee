package expand

import "rehearsal/vars"

// separators are the bytes that cut what is split.
func separators(t *vars.Table) string {
	if s, set := t.Get("IFS"); set {
		return s
	}
	return " \t\n"
}

// cutter cuts pieces into fields: those that ended, and the one under way.
type cutter struct {
	cuts  [256]bool // by bytes: is it a separator?
	ended [][]piece
	now   []piece
	// white: a blank, tab or newline ended the last field, and nothing that ends one came since.
	white bool
}

// fields cuts pieces into fields.
func fields(l []piece, separators string) [][]piece {
	var c cutter
	for i := range len(separators) {
		c.cuts[separators[i]] = true
	}
	for _, p := range l {
		switch {
		case p.end:
			c.end()
			c.white = false
		case p.split:
			c.split(p)
		default:
			c.join(p)
		}
	}
	c.end()
	return c.ended
}

// join joins a piece to the field under way, if that makes it something.
func (c *cutter) join(p piece) {
	if p.quoted || p.text != "" {
		c.now = append(c.now, p)
	}
}

// end ends the field under way, if there is something of it.
func (c *cutter) end() {
	if len(c.now) > 0 {
		c.ended = append(c.ended, c.now)
		c.now = nil
	}
}

// split joins a piece, but for its separators.
func (c *cutter) split(p piece) {
	begin := 0
	for at := range len(p.text) {
		if c.cuts[p.text[at]] {
			c.join(piece{text: p.text[begin:at]})
			c.separator(p.text[at])
			begin = at + 1
		}
	}
	c.join(piece{text: p.text[begin:]})
}

// separator ends the field under way; one that is not white ends an empty one, too, but where it stands behind a field that white ones ended.
func (c *cutter) separator(sign byte) {
	white := sign == ' ' || sign == '\t' || sign == '\n'
	switch {
	case len(c.now) > 0:
		c.end()
		c.white = white
	case white:
	case c.white:
		c.white = false
	default:
		c.ended = append(c.ended, nil)
	}
}
