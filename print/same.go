package print

import (
	"slices"

	"rehearsal/api"
	"rehearsal/word"
)

// Same tells whether two scripts are the same.
func Same(a, b []api.List) bool {
	return slices.EqualFunc(a, b, sameList)
}

func sameList(a, b api.List) bool {
	return slices.Equal(a.Ops, b.Ops) && slices.EqualFunc(a.Pipes, b.Pipes, samePipe)
}

func samePipe(a, b api.Pipe) bool {
	return a.Not == b.Not && slices.EqualFunc(a.Cmds, b.Cmds, sameCmd)
}

func sameCmd(a, b api.Cmd) bool {
	return a.Kind == b.Kind && a.Name == b.Name &&
		slices.EqualFunc(a.Assigns, b.Assigns, sameAssign) && sameWords(a.Words, b.Words) &&
		Same(a.Cond, b.Cond) && Same(a.Body, b.Body) && Same(a.Other, b.Other) &&
		slices.EqualFunc(a.Cases, b.Cases, sameCase) && slices.EqualFunc(a.Redirs, b.Redirs, sameRedir)
}

func sameAssign(a, b api.Assign) bool {
	return a.Name == b.Name && word.Same(a.Word, b.Word)
}

func sameCase(a, b api.Case) bool {
	return sameWords(a.Patterns, b.Patterns) && Same(a.Body, b.Body)
}

func sameRedir(a, b api.Redir) bool {
	return a.Fd == b.Fd && a.Op == b.Op && word.Same(a.Word, b.Word)
}

func sameWords(a, b [][]api.Part) bool {
	return slices.EqualFunc(a, b, word.Same)
}
