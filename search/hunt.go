package search

import (
	"slices"

	"superpose/api"
	"superpose/tree"
)

// hunt: a search on its way.
type hunt struct {
	store
	last  api.Inference // by which the empty clause came
	found bool          // whether it did
}

// hunted: the answer of a search that looks at no more than so many clauses.
func hunted(g api.Signature, l []api.Clause, fuel int) api.Answer {
	if slices.ContainsFunc(l, empty) {
		return api.Answer{Verdict: api.VerdictRefuted}
	}
	h := &hunt{store: store{g: g, work: mostWork}}
	for _, c := range l {
		h.give(c)
	}
	return h.run(fuel)
}

// run till it is known, or so many clauses are looked at.
func (h *hunt) run(fuel int) api.Answer {
	for !h.over() {
		n := h.lightest()
		if n < 0 {
			return api.Answer{Verdict: api.VerdictSaturated, Set: h.set()}
		}
		if fuel == 0 {
			break
		}
		fuel--
		h.look(n)
	}
	if h.found {
		return api.Answer{Verdict: api.VerdictRefuted, Proof: h.proof()}
	}
	return api.Answer{Verdict: api.VerdictUnknown}
}

// over: is there no use in going on?
func (h *hunt) over() bool { return h.found || h.work <= 0 }

// lightest of the clauses that wait, the first such one; -1, if none waits.
func (h *hunt) lightest() int {
	at := -1
	for n, x := range h.list {
		if x.is == waits && (at < 0 || x.weight < h.list[at].weight) {
			at = n
		}
	}
	return at
}

// look at a clause: keep what comes of it alone, and with each that was looked at.
func (h *hunt) look(n int) {
	h.list[n].is = looked
	h.try(n)
	for m := range len(h.list) {
		h.try(n, m)
		if m != n {
			h.try(m, n)
		}
	}
}

// try all inferences of a clause alone, or of two, by their numbers, if they are looked at.
func (h *hunt) try(numbers ...int) {
	var few []api.Clause
	weight := 0
	for _, n := range numbers {
		if h.over() || h.list[n].is != looked {
			return
		}
		few = append(few, h.list[n].clause)
		weight += h.list[n].weight
	}
	h.work -= weight * len(few[0]) // what is left out at first sight takes some, too
	of(h.g, func(i api.Inference, c api.Clause, e api.Errno) bool {
		h.work -= weight
		if e == api.OK {
			h.come(named(i, numbers), c)
		}
		return !h.over()
	}, few...)
}

// named: the inference, of clauses of a few, by the numbers that they have in the search.
func named(i api.Inference, numbers []int) api.Inference {
	i.Left = numbers[i.Left]
	if i.Kind == api.InferPut {
		i.Right = numbers[i.Right]
	}
	return i
}

// come: take what came of an inference.
func (h *hunt) come(i api.Inference, c api.Clause) {
	if len(c) == 0 {
		h.last, h.found = i, true
		return
	}
	h.keep(c, i)
}

// set: the clauses that are looked at.
func (h *hunt) set() []api.Clause {
	var list []api.Clause
	for _, x := range h.list {
		if x.is == looked {
			list = append(list, tree.CopyClause(x.clause))
		}
	}
	return list
}
