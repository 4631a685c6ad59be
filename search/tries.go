package search

import (
	"iter"
	"slices"

	"superpose/api"
	"superpose/infer"
	"superpose/tree"
)

// tell what comes of an inference, or why nothing does; false, if no more need be told.
type tell func(i api.Inference, c api.Clause, e api.Errno) bool

// ofAll tells of each inference of one clause of a list, or of two, or of one twice; false, if it was told to stop.
func ofAll(g api.Signature, l []api.Clause, do tell) bool {
	l = distinct(l)
	for _, left := range l {
		if !of(g, do, left) {
			return false
		}
		for _, right := range l {
			if !of(g, do, left, right) {
				return false
			}
		}
	}
	return true
}

// distinct: the clauses of a list, without those that are there again: nothing else comes of them.
func distinct(l []api.Clause) []api.Clause {
	var list []api.Clause
	for _, c := range l {
		if !slices.ContainsFunc(list, func(d api.Clause) bool { return slices.EqualFunc(c, d, same) }) {
			list = append(list, c)
		}
	}
	return list
}

// same: are two literals the same, sides turned or not?
func same(k, l api.Literal) bool { return k.Yes == l.Yes && tree.SameSides(k, l) }

// of tells of each inference of a clause alone, or of two, as if there were no others; false, if it was told to stop.
// (Infer checks all of the list that it is handed, each time: so it is handed no more than it needs.)
func of(g api.Signature, do tell, few ...api.Clause) bool {
	tried := ones(few[0])
	if len(few) > 1 {
		tried = twos(few[0], few[1])
	}
	for i := range tried {
		if c, e := infer.Infer(g, few, i); !do(i, c, e) {
			return false
		}
	}
	return true
}

// ones: the inferences of a clause alone, but for those that have ErrState at first sight. (All would leave out those that have ErrMany, too.)
func ones(c api.Clause) iter.Seq[api.Inference] {
	return func(yield func(api.Inference) bool) {
		for _, s := range once(c) {
			if !s.yes && !s.turned && !yield(api.Inference{Kind: api.InferSame, LeftAt: s.at}) {
				return
			}
			for _, u := range ways(c) {
				i := api.Inference{Kind: api.InferFactor, LeftAt: s.at, LeftTurned: s.turned, RightAt: u.at, RightTurned: u.turned}
				if s.yes && u.yes && s.at != u.at && tree.Alike(s.first, u.first) && !yield(i) {
					return
				}
			}
		}
	}
}

// twos: the inferences of two clauses, but for those that have ErrState at first sight.
func twos(left, right api.Clause) iter.Seq[api.Inference] {
	// That variables can't be made others is ErrMany, ahead of whether sides can be made the same.
	far := tree.Greatest(left)+tree.Greatest(right) > api.MaxVar
	return func(yield func(api.Inference) bool) {
		for _, l := range once(left) {
			for _, u := range once(right) {
				if !l.yes {
					continue
				}
				for place, part := range tree.Places(u.first) {
					i := api.Inference{Kind: api.InferPut, Right: 1, LeftAt: l.at, LeftTurned: l.turned, RightAt: u.at, RightTurned: u.turned, Place: place}
					if part.Var == 0 && (far || tree.Alike(l.first, part)) && !yield(i) {
						return
					}
				}
			}
		}
	}
}

// way to take a literal of a clause.
type way struct {
	at     int
	turned bool
	yes    bool
	first  api.Term // the first side, if it is so turned
}

// ways to take the literals of a clause.
func ways(c api.Clause) []way {
	var list []way
	for at, l := range c {
		list = append(list, way{at, false, l.Yes, l.A}, way{at, true, l.Yes, l.B})
	}
	return list
}

// once: the ways without those of literals that one ahead is, too: what comes by them differs in the order of literals alone.
func once(c api.Clause) []way {
	return slices.DeleteFunc(ways(c), func(w way) bool {
		return slices.ContainsFunc(c[:w.at], func(l api.Literal) bool { return same(l, c[w.at]) })
	})
}
