package clause

import (
	"slices"

	"superpose/api"
	"superpose/tree"
)

// sameSides: have two literals the same sides, turned or not?
func sameSides(k, l api.Literal) bool {
	return tree.Same(k.A, l.A) && tree.Same(k.B, l.B) || tree.Same(k.A, l.B) && tree.Same(k.B, l.A)
}

// denied: is a literal also there as no?
func denied(c api.Clause, l api.Literal) bool {
	return slices.ContainsFunc(c, func(k api.Literal) bool { return !k.Yes && sameSides(k, l) })
}

// needed: the literals without those that can't be so, and those that one ahead is, too.
func needed(c api.Clause) api.Clause {
	var left api.Clause
	for _, l := range c {
		again := slices.ContainsFunc(left, func(k api.Literal) bool { return k.Yes == l.Yes && sameSides(k, l) })
		if !again && (l.Yes || !tree.Same(l.A, l.B)) {
			left = append(left, l)
		}
	}
	return left
}

// numbers that variables have anew.
type numbers map[int]int

// renumbered: the clause in new memory, its variables numbered from 1 on as they first stand in it.
func renumbered(c api.Clause) api.Clause {
	made := make(api.Clause, len(c))
	anew := numbers{}
	for i, l := range c {
		made[i] = api.Literal{Yes: l.Yes, A: tree.Copy(l.A), B: tree.Copy(l.B)}
		anew.give(&made[i].A)
		anew.give(&made[i].B)
	}
	return made
}

// give the variables of a term, which is this package's own, their numbers.
func (n numbers) give(t *api.Term) {
	if t.Var != 0 {
		if n[t.Var] == 0 {
			n[t.Var] = len(n) + 1
		}
		t.Var = n[t.Var]
	}
	for i := range t.Args {
		n.give(&t.Args[i])
	}
}
