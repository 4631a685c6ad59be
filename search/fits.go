package search

import (
	"maps"
	"slices"

	"superpose/api"
	"superpose/tree"
)

// bound: what a clause's variables are bound to.
type bound map[int]api.Term

// match binds what is free in p so that p is t; false, if it can't be (some may be bound then).
func (b bound) match(p, t api.Term) bool {
	if p.Var == 0 {
		return t.Var == 0 && p.Fn == t.Fn && slices.EqualFunc(p.Args, t.Args, b.match)
	}
	if to, ok := b[p.Var]; ok {
		return tree.Same(to, t)
	}
	b[p.Var] = t
	return true
}

// fits: is there a putting in that makes each literal of c another one of d's? (As far as work is left.)
// Subsumes lets two become the same one: so a clause subsumes what comes of it where they do, and a search that let go of that would take a list for saturated that is refuted.
func (s *store) fits(c, d api.Clause, by bound) bool {
	if len(c) == 0 {
		return true
	}
	for n, k := range d {
		if k.Yes == c[0].Yes && (s.fitsAt(c, d, by, n, k.A, k.B) || s.fitsAt(c, d, by, n, k.B, k.A)) {
			return true
		}
	}
	return false
}

// fitsAt: is there one that makes the sides of c's first literal a and b, those of d's literal n?
func (s *store) fitsAt(c, d api.Clause, by bound, n int, a, b api.Term) bool {
	if s.work--; s.work <= 0 || !tree.Covers(c[0].A, a) || !tree.Covers(c[0].B, b) {
		return false
	}
	by = maps.Clone(by)
	return by.match(c[0].A, a) && by.match(c[0].B, b) && s.fits(c[1:], without(d, n), by)
}

// without a literal: the others, in a list of their own.
func without(c api.Clause, at int) api.Clause { return slices.Delete(slices.Clone(c), at, at+1) }
