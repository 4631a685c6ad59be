package rewrite

import (
	"superpose/api"
	"superpose/subst"
	"superpose/term"
	"superpose/tree"
)

// first place at which found says yes, arguments from the left ahead of what has them, in a part that itself stands at here; false, if there is none.
func first(part api.Term, here []int, found func(part api.Term) bool) ([]int, bool) {
	for i, a := range part.Args {
		if place, ok := first(a, append(here, i), found); ok {
			return place, true
		}
	}
	return here, found(part)
}

// step by rules that are right, in a term that is, too.
func step(g api.Signature, l []api.Rule, t api.Term) (api.Term, bool, api.Errno) {
	var to api.Term
	var by []api.Binding
	place, ok := first(t, nil, func(part api.Term) bool {
		for _, r := range l {
			if b, ok, _ := subst.Match(g, r.From, part); ok {
				to, by = r.To, b
				return true
			}
		}
		return false
	})
	if !ok {
		return tree.Copy(t), false, api.OK
	}
	to, e := subst.Apply(g, by, to)
	if e != api.OK {
		return api.Term{}, false, e
	}
	made, e := term.Put(g, t, place, to)
	return made, e == api.OK, e
}
