package word

import "rehearsal/api"

// gather is the parts of a word so far. Texts side by side become one part: so what was read of a text is held back till something else comes.
type gather struct {
	parts  []api.Part
	text   []byte
	open   bool // is a text held back, be it empty?
	quoted bool
}

// add puts a text behind what there is.
func (g *gather) add(text string, quoted bool) {
	if g.quoted != quoted {
		g.close()
	}
	g.open, g.quoted = true, quoted
	g.text = append(g.text, text...)
}

// put puts a part that is no text behind what there is.
func (g *gather) put(p api.Part) {
	g.close()
	g.parts = append(g.parts, p)
}

// close makes a part of the text that is held back.
func (g *gather) close() {
	if g.open {
		g.parts = append(g.parts, api.Part{Kind: api.Lit, Quoted: g.quoted, Text: string(g.text)})
	}
	g.text, g.open = g.text[:0], false
}
