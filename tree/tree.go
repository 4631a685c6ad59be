// Package tree: what the layers do alike with terms, and with literals of them, that they have checked.
package tree

import (
	"slices"

	"superpose/api"
)

// Same: are two terms the same?
func Same(a, b api.Term) bool {
	return a.Var == b.Var && a.Fn == b.Fn && slices.EqualFunc(a.Args, b.Args, Same)
}

// Copy is the term in new memory: parts of one handed in may share theirs, those of an answer must not.
func Copy(t api.Term) api.Term {
	made := api.Term{Var: t.Var, Fn: t.Fn}
	if len(t.Args) == 0 {
		return made
	}
	made.Args = make([]api.Term, len(t.Args))
	for i, a := range t.Args {
		made.Args[i] = Copy(a)
	}
	return made
}

// CopyClause is the clause in new memory, as it stands.
func CopyClause(c api.Clause) api.Clause {
	made := make(api.Clause, len(c))
	for i, l := range c {
		made[i] = api.Literal{Yes: l.Yes, A: Copy(l.A), B: Copy(l.B)}
	}
	return made
}
