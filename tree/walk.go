package tree

import (
	"iter"
	"slices"

	"superpose/api"
)

// Sides of a literal: the first one, and the other one.
func Sides(l api.Literal, turned bool) (api.Term, api.Term) {
	if turned {
		return l.B, l.A
	}
	return l.A, l.B
}

// Part of a term at a place that there is; At would copy it, for each inference that is tried.
func Part(t api.Term, place []int) api.Term {
	for _, n := range place {
		t = t.Args[n]
	}
	return t
}

// Places of a term, each in new memory, with the part that stands there, what has others ahead of them.
func Places(t api.Term) iter.Seq2[[]int, api.Term] {
	return func(yield func([]int, api.Term) bool) { placesFrom(t, nil, yield) }
}

// placesFrom goes on, till it is told to stop, with the places of a part that itself stands at here.
func placesFrom(part api.Term, here []int, yield func([]int, api.Term) bool) bool {
	if !yield(slices.Clone(here), part) {
		return false
	}
	for n, a := range part.Args {
		if !placesFrom(a, append(here, n), yield) {
			return false
		}
	}
	return true
}

// Greatest number of a variable in a clause; 0, if there is none.
func Greatest(c api.Clause) int {
	most := 0
	for _, l := range c {
		most = max(most, greatest(l.A), greatest(l.B))
	}
	return most
}

func greatest(t api.Term) int {
	most := t.Var
	for _, a := range t.Args {
		most = max(most, greatest(a))
	}
	return most
}

// Alike: does no function of one term stand where another one stands in the other? Else nothing that is put in makes them the same.
func Alike(a, b api.Term) bool {
	return a.Var != 0 || b.Var != 0 || a.Fn == b.Fn && slices.EqualFunc(a.Args, b.Args, Alike)
}

// Covers: do p's functions stand in t, too, where they stand in p? Else nothing that is put in p makes it t.
func Covers(p, t api.Term) bool {
	return p.Var != 0 || t.Var == 0 && p.Fn == t.Fn && slices.EqualFunc(p.Args, t.Args, Covers)
}
