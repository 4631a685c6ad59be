// Package term: terms: see doc/01-term.md.
package term

import (
	"slices"

	"superpose/api"
	"superpose/tree"
)

// Signature: is one right?
func Signature(g api.Signature) api.Errno {
	if len(g.Arity) > api.MaxFunctions {
		return api.ErrMany
	}
	for _, n := range g.Arity {
		if n < 0 || n > api.MaxArity {
			return api.ErrRange
		}
	}
	return api.OK
}

// Check a term.
func Check(g api.Signature, t api.Term) api.Errno { return check(g, t) }

// Size of a term.
func Size(g api.Signature, t api.Term) (int, api.Errno) {
	if e := check(g, t); e != api.OK {
		return 0, e
	}
	return size(api.MaxSize, t), api.OK
}

// Vars of a term.
func Vars(g api.Signature, t api.Term) ([]int, api.Errno) {
	if e := check(g, t); e != api.OK {
		return nil, e
	}
	var vars []int
	look(func(part api.Term) bool {
		if part.Var != 0 {
			vars = append(vars, part.Var)
		}
		return true
	}, t)
	slices.Sort(vars)
	return slices.Compact(vars), api.OK
}

// At a place.
func At(g api.Signature, t api.Term, place []int) (api.Term, api.Errno) {
	if e := check(g, t); e != api.OK {
		return api.Term{}, e
	}
	there, ok := find(t, place)
	if !ok {
		return api.Term{}, api.ErrNone
	}
	return tree.Copy(there), api.OK
}

// Put another term at a place.
func Put(g api.Signature, t api.Term, place []int, u api.Term) (api.Term, api.Errno) {
	if e := check(g, t, u); e != api.OK {
		return api.Term{}, e
	}
	there, ok := find(t, place)
	if !ok {
		return api.Term{}, api.ErrNone
	}
	if size(api.MaxSize, t)-size(api.MaxSize, there)+size(api.MaxSize, u) > api.MaxSize {
		return api.Term{}, api.ErrMany
	}
	return put(t, place, u), api.OK
}
