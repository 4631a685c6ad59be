package infer

import (
	"iter"
	"slices"

	"superpose/api"
	"superpose/order"
	"superpose/tree"
)

// those that are good, in the order in which they are tried.
func those(tried iter.Seq[api.Inference], good func(api.Inference) bool) []api.Inference {
	var list []api.Inference
	for i := range tried {
		if good(i) {
			list = append(list, i)
		}
	}
	return list
}

// ones: all inferences that may be tried of a clause alone, in the order of H3.
func ones(g api.Signature, c api.Clause, left int) iter.Seq[api.Inference] {
	return func(yield func(api.Inference) bool) {
		for at := range c {
			if !yield(api.Inference{Kind: api.InferSame, Left: left, LeftAt: at}) {
				return
			}
		}
		for i := range twos(falling(g, c), either(c)) {
			i.Kind, i.Left = api.InferFactor, left
			if !yield(i) {
				return
			}
		}
	}
}

// puts: all inferences that may be tried of two clauses, in the order of H3.
func puts(g api.Signature, first, second api.Clause, left, right int) iter.Seq[api.Inference] {
	return func(yield func(api.Inference) bool) {
		for i := range twos(falling(g, first), falling(g, second)) {
			i.Kind, i.Left, i.Right = api.InferPut, left, right
			u, _ := tree.Sides(second[i.RightAt], i.RightTurned)
			for place := range tree.Places(u) {
				i.Place = place
				if !yield(i) {
					return
				}
			}
		}
	}
}

// way to take a literal of a clause.
type way struct {
	at     int
	turned bool
}

// either: each literal of a clause, turned or not.
func either(c api.Clause) []way {
	var list []way
	for at := range c {
		list = append(list, way{at, false}, way{at, true})
	}
	return list
}

// falling: of either those whose other side is not greater than the first one. Where it is, it stays so, whatever is put in (D3), and nothing comes: so it need not be tried at each place.
func falling(g api.Signature, c api.Clause) []way {
	return slices.DeleteFunc(either(c), func(w way) bool {
		first, other := tree.Sides(c[w.at], w.turned)
		rises, _ := order.Greater(g, other, first)
		return rises
	})
}

// twos: each way of the first ones with each of the second ones.
func twos(first, second []way) iter.Seq[api.Inference] {
	return func(yield func(api.Inference) bool) {
		for _, f := range first {
			for _, s := range second {
				if !yield(api.Inference{LeftAt: f.at, LeftTurned: f.turned, RightAt: s.at, RightTurned: s.turned}) {
					return
				}
			}
		}
	}
}
