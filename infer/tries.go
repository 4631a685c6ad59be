package infer

import (
	"iter"
	"slices"

	"superpose/api"
)

// those that are good, in the order in which they are tried.
func those(tried iter.Seq[api.Inference], good func(api.Inference) bool) []api.Inference {
	var list []api.Inference
	for i := range tried {
		if good(i) {
			list = append(list, i)
		}
	}
	return list
}

// ones: all inferences that may be tried of a clause alone, in the order of H3.
func ones(c api.Clause, left int) iter.Seq[api.Inference] {
	return func(yield func(api.Inference) bool) {
		for at := range c {
			if !yield(api.Inference{Kind: api.InferSame, Left: left, LeftAt: at}) {
				return
			}
		}
		for i := range twos(c, c) {
			i.Kind, i.Left = api.InferFactor, left
			if !yield(i) {
				return
			}
		}
	}
}

// puts: all inferences that may be tried of two clauses, in the order of H3.
func puts(first, second api.Clause, left, right int) iter.Seq[api.Inference] {
	return func(yield func(api.Inference) bool) {
		for i := range twos(first, second) {
			i.Kind, i.Left, i.Right = api.InferPut, left, right
			u, _ := sides(second[i.RightAt], i.RightTurned)
			for place := range places(u) {
				i.Place = place
				if !yield(i) {
					return
				}
			}
		}
	}
}

// twos: each literal of the first clause with each of the second one, turned or not.
func twos(first, second api.Clause) iter.Seq[api.Inference] {
	turns := []bool{false, true}
	return func(yield func(api.Inference) bool) {
		for leftAt := range first {
			for _, leftTurned := range turns {
				for rightAt := range second {
					for _, rightTurned := range turns {
						if !yield(api.Inference{LeftAt: leftAt, LeftTurned: leftTurned, RightAt: rightAt, RightTurned: rightTurned}) {
							return
						}
					}
				}
			}
		}
	}
}

// places of a term, each in new memory, as the parts stand in it, what has others ahead of them.
func places(t api.Term) iter.Seq[[]int] {
	return func(yield func([]int) bool) { placesFrom(t, nil, yield) }
}

// placesFrom goes on, till it is told to stop, with the places of a part that itself stands at here.
func placesFrom(part api.Term, here []int, yield func([]int) bool) bool {
	if !yield(slices.Clone(here)) {
		return false
	}
	for n, a := range part.Args {
		if !placesFrom(a, append(here, n), yield) {
			return false
		}
	}
	return true
}
