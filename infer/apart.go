package infer

import (
	"superpose/api"
	"superpose/tree"
)

// apart: the second clause with variables that are others than the first one's: each number is more by the greatest one of that.
func apart(first, second api.Clause) (api.Clause, api.Errno) {
	by := tree.Greatest(first)
	if by+tree.Greatest(second) > api.MaxVar {
		return nil, api.ErrMany
	}
	if by == 0 {
		return second, api.OK
	}
	made := make(api.Clause, len(second))
	for n, l := range second {
		made[n] = api.Literal{Yes: l.Yes, A: raised(l.A, by), B: raised(l.B, by)}
	}
	return made, api.OK
}

// raised: the term, each variable's number more by so many.
func raised(t api.Term, by int) api.Term {
	if t.Var != 0 {
		return api.Term{Var: t.Var + by}
	}
	made := api.Term{Fn: t.Fn, Args: make([]api.Term, len(t.Args))}
	for n, a := range t.Args {
		made.Args[n] = raised(a, by)
	}
	return made
}
