package glob

import (
	"strings"

	"rehearsal/api"
	"rehearsal/match"
	"rehearsal/path"
	"rehearsal/vtree"
)

// mostLists is how many lists are asked for: links that lead upwards would let there be far more.
const mostLists = 1024

// search is a pattern being looked for: its steps, and what stands behind the last one.
type search struct {
	files *vtree.Files
	dir   string
	steps []step
	tail  string
	lists int
	held  map[pair]answer
	found []string
}

// pair is a name that was held against a step's part.
type pair struct {
	at   int
	name string
}

// answer is whether a name fits.
type answer struct {
	fits bool
}

// from goes on behind a text that the steps up to one came to.
func (s *search) from(text string, at int) {
	if at == len(s.steps) {
		s.find(text + s.tail)
		return
	}
	text += s.steps[at].ahead
	for _, name := range s.list(text) {
		if s.fits(at, name) {
			s.from(text+name, at+1)
		}
	}
}

// list asks for the names in a directory, if that may still be asked. What was found before plays no part: it is promised which lists are asked for.
func (s *search) list(text string) []string {
	if s.lists == mostLists {
		return nil
	}
	s.lists++
	if text == "" {
		text = "."
	}
	// With an error there are no names.
	names, _ := s.files.List(path.Abs(s.dir, text))
	return names
}

// fits tells whether a name fits a step's part. Links lead to the same names again and again, and a part may be long: so each is held against it once.
func (s *search) fits(at int, name string) bool {
	a, ok := s.held[pair{at, name}]
	if !ok {
		part := s.steps[at].part
		a.fits = shown(part, name) && match.Fits(part, name)
		s.held[pair{at, name}] = a
	}
	return a.fits
}

// find keeps a text, if something is there, and there is room for it.
func (s *search) find(text string) {
	if len(s.found) == api.MaxFields {
		return
	}
	if _, e := s.files.Stat(path.Abs(s.dir, text), false); e == api.OK {
		s.found = append(s.found, text)
	}
}

// shown tells whether a part may find a name: the . that a hidden one begins with must stand there as itself.
func shown(part, name string) bool {
	return !strings.HasPrefix(name, ".") || strings.HasPrefix(strings.TrimPrefix(part, `\`), ".")
}
