package term

import (
	"superpose/api"
	"superpose/tree"
)

// look hands each part of the terms to do, behind those that stand in it, from the left, till do says no.
// It goes down ahead of asking do, so the terms must be known not to hold themselves.
func look(do func(part api.Term) bool, terms ...api.Term) bool {
	for _, t := range terms {
		if !look(do, t.Args...) || !do(t) {
			return false
		}
	}
	return true
}

// size counts the parts of terms, and stops as soon as there are more than limit: a term may be huge, or hold itself.
func size(limit int, terms ...api.Term) int {
	n := 0
	for _, t := range terms {
		n++
		if n <= limit {
			n += size(limit-n, t.Args...)
		}
		if n > limit {
			return n
		}
	}
	return n
}

// check the signature, then each of the terms.
func check(g api.Signature, terms ...api.Term) api.Errno {
	if e := Signature(g); e != api.OK {
		return e
	}
	for _, t := range terms {
		if e := checkTerm(g, t); e != api.OK {
			return e
		}
	}
	return api.OK
}

func checkTerm(g api.Signature, t api.Term) api.Errno {
	if size(api.MaxSize, t) > api.MaxSize {
		return api.ErrMany
	}
	e := api.OK
	look(func(part api.Term) bool {
		e = checkPart(g, part)
		return e == api.OK
	}, t)
	return e
}

// checkPart checks a part alone, without those that stand in it.
func checkPart(g api.Signature, part api.Term) api.Errno {
	if part.Var != 0 {
		return checkVar(part)
	}
	if part.Fn < 0 || part.Fn >= len(g.Arity) {
		return api.ErrNone
	}
	if len(part.Args) != g.Arity[part.Fn] {
		return api.ErrForm
	}
	return api.OK
}

func checkVar(part api.Term) api.Errno {
	if part.Var < 1 || part.Var > api.MaxVar {
		return api.ErrRange
	}
	if len(part.Args) != 0 || part.Fn != 0 {
		return api.ErrForm
	}
	return api.OK
}

// find the part at a place; false, if there is none.
func find(t api.Term, place []int) (api.Term, bool) {
	for _, i := range place {
		if i < 0 || i >= len(t.Args) {
			return api.Term{}, false
		}
		t = t.Args[i]
	}
	return t, true
}

// put u at a place that is there.
func put(t api.Term, place []int, u api.Term) api.Term {
	made := tree.Copy(t)
	there := &made
	for _, i := range place {
		there = &there.Args[i]
	}
	*there = tree.Copy(u)
	return made
}
