package infer

import (
	"superpose/api"
	"superpose/term"
)

// apart: the second clause with variables that are others than the first one's: each number is more by the greatest one of that.
func apart(g api.Signature, first, second api.Clause) (api.Clause, api.Errno) {
	by := greatest(g, first)
	if by+greatest(g, second) > api.MaxVar {
		return nil, api.ErrMany
	}
	made := make(api.Clause, len(second))
	for n, l := range second {
		made[n] = api.Literal{Yes: l.Yes, A: raised(l.A, by), B: raised(l.B, by)}
	}
	return made, api.OK
}

// greatest number of a variable in a clause; 0, if there is none.
func greatest(g api.Signature, c api.Clause) int {
	most := 0
	for _, l := range c {
		for _, side := range []api.Term{l.A, l.B} {
			vars, _ := term.Vars(g, side)
			for _, v := range vars {
				most = max(most, v)
			}
		}
	}
	return most
}

// raised: the term, each variable's number more by so many.
func raised(t api.Term, by int) api.Term {
	if t.Var != 0 {
		return api.Term{Var: t.Var + by}
	}
	made := api.Term{Fn: t.Fn, Args: make([]api.Term, len(t.Args))}
	for n, a := range t.Args {
		made.Args[n] = raised(a, by)
	}
	return made
}
