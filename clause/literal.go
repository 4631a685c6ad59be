package clause

import (
	"slices"

	"superpose/api"
	"superpose/tree"
)

// denied: is a literal also there as no?
func denied(c api.Clause, l api.Literal) bool {
	return slices.ContainsFunc(c, func(k api.Literal) bool { return !k.Yes && tree.SameSides(k, l) })
}

// numbers that variables have anew.
type numbers map[int]int

// renumbered: the clause in new memory, its variables numbered from 1 on as they first stand in it.
func renumbered(c api.Clause) api.Clause {
	made := tree.CopyClause(c)
	anew := numbers{}
	for i := range made {
		anew.give(&made[i].A)
		anew.give(&made[i].B)
	}
	return made
}

// give the variables of a term, which is this package's own, their numbers.
func (n numbers) give(t *api.Term) {
	if t.Var != 0 {
		if n[t.Var] == 0 {
			n[t.Var] = len(n) + 1
		}
		t.Var = n[t.Var]
	}
	for i := range t.Args {
		n.give(&t.Args[i])
	}
}
