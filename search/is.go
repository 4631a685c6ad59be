package search

import (
	"slices"

	"superpose/api"
	"superpose/clause"
	"superpose/proof"
	"superpose/tree"
)

// refuted: does an answer refute a list?
func refuted(g api.Signature, l []api.Clause, a api.Answer) bool {
	if len(a.Set) > 0 {
		return false
	}
	if len(a.Proof) == 0 {
		return slices.ContainsFunc(l, empty)
	}
	is, _ := proof.Check(g, l, a.Proof)
	return is
}

func empty(c api.Clause) bool { return len(c) == 0 }

// saturated: does an answer's set say all that a list says, and does nothing new come of it?
func saturated(g api.Signature, l []api.Clause, a api.Answer) bool {
	if len(a.Proof) > 0 || slices.ContainsFunc(a.Set, empty) {
		return false
	}
	if slices.ContainsFunc(l, func(c api.Clause) bool { return !said(g, a.Set, c) }) {
		return false
	}
	return ofAll(g, a.Set, func(_ api.Inference, c api.Clause, e api.Errno) bool {
		return e != api.ErrMany && (e != api.OK || said(g, a.Set, c))
	})
}

// said: is a clause Always, or does one of a set subsume it?
func said(g api.Signature, set []api.Clause, c api.Clause) bool {
	if always, _ := clause.Always(g, c); always {
		return true
	}
	return slices.ContainsFunc(set, func(by api.Clause) bool { return subsumes(g, by, c) })
}

// subsumes is Subsumes, which is spared where it is not so at first sight: it checks all that it is handed.
func subsumes(g api.Signature, c, d api.Clause) bool {
	if !covers(c, d) {
		return false
	}
	is, _ := clause.Subsumes(g, c, d)
	return is
}

// covers: is there for each literal of c one of d's that it might be made? Else c does not subsume d.
func covers(c, d api.Clause) bool {
	return !slices.ContainsFunc(c, func(l api.Literal) bool {
		return !slices.ContainsFunc(d, func(k api.Literal) bool { return l.Yes == k.Yes && coversSides(l, k) })
	})
}

// coversSides: might a literal be made another one, sides turned or not?
func coversSides(l, k api.Literal) bool {
	return tree.Covers(l.A, k.A) && tree.Covers(l.B, k.B) || tree.Covers(l.A, k.B) && tree.Covers(l.B, k.A)
}
