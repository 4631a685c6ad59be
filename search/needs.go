package search

import (
	"maps"
	"slices"

	"superpose/api"
)

// needs: which clauses that came a proof needs, by their numbers in the search, and the numbers they have in the proof.
type needs map[int]int

// proof: the inferences of which the empty clause came, and no others.
func (h *hunt) proof() []api.Inference {
	needed := needs{}
	h.need(needed, h.last)
	// A clause came behind those that it came of: so they rise in the proof, too.
	rising := slices.Sorted(maps.Keys(needed))
	for at, n := range rising {
		needed[n] = h.given + at
	}
	var list []api.Inference
	for _, n := range rising {
		list = append(list, needed.named(h.list[n].from))
	}
	return append(list, needed.named(h.last))
}

// need what an inference is of, and what that came of.
func (h *hunt) need(needed needs, i api.Inference) {
	for _, n := range sources(i) {
		if _, ok := needed[n]; !ok && n >= h.given {
			needed[n] = n
			h.need(needed, h.list[n].from)
		}
	}
}

// sources: the numbers of the clauses that an inference is of.
func sources(i api.Inference) []int {
	if i.Kind == api.InferPut {
		return []int{i.Left, i.Right}
	}
	return []int{i.Left}
}

// named: the inference, of clauses by the numbers that they have in the proof. Those that were handed in keep theirs; so does a Right that is nothing: clause 0 was handed in.
func (n needs) named(i api.Inference) api.Inference {
	if to, ok := n[i.Left]; ok {
		i.Left = to
	}
	if to, ok := n[i.Right]; ok {
		i.Right = to
	}
	return i
}
