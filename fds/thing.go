package fds

import (
	"strings"

	"rehearsal/api"
	"rehearsal/vtree"
)

// thing is what a number stands for: an *input, a *buffer, or a file; nil is nothing. What numbers may share is behind a pointer.
type thing any

// input is what is left of a text that is read.
type input struct {
	left string
}

// all reads all that is left.
func (in *input) all() string {
	s := in.left
	in.left = ""
	return s
}

// line reads what is left up to a newline, and it, if there is one.
func (in *input) line() (string, bool) {
	s, left, ended := strings.Cut(in.left, "\n")
	in.left = left
	return s, ended
}

// buffer is what was written into it.
type buffer struct {
	text []byte
}

// add puts a text behind what is there.
func (b *buffer) add(s string) api.Errno {
	if len(b.text)+len(s) > api.MaxOut {
		return api.ErrLimit
	}
	b.text = append(b.text, s...)
	return api.OK
}

// file is a path: what lies there may be another file by the next time.
type file struct {
	path string
}

// add puts a text behind what the file has.
func (x file) add(f *vtree.Files, s string) api.Errno {
	// Even nothing, appended, would make the file, or give it another time.
	if s == "" {
		return api.OK
	}
	return f.Write(x.path, s, api.Append)
}
