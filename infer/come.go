package infer

import (
	"slices"

	"superpose/api"
	"superpose/clause"
	"superpose/order"
	"superpose/subst"
	"superpose/term"
	"superpose/tree"
)

// fit: are the literals, and the term at Place, as the kind of the inference asks?
func fit(left, right api.Clause, i api.Inference) bool {
	yes := left[i.LeftAt].Yes
	switch i.Kind {
	case api.InferSame:
		return !yes
	case api.InferFactor:
		return yes && left[i.RightAt].Yes && i.LeftAt != i.RightAt
	}
	u, _ := tree.Sides(right[i.RightAt], i.RightTurned)
	return yes && tree.Part(u, i.Place).Var == 0
}

// come: what comes of an inference that fits; right's variables are others than left's.
func come(g api.Signature, left, right api.Clause, i api.Inference) (api.Clause, api.Errno) {
	switch i.Kind {
	case api.InferSame:
		return same(g, left, i)
	case api.InferFactor:
		return factor(g, left, i)
	}
	return put(g, left, right, i)
}

func same(g api.Signature, c api.Clause, i api.Inference) (api.Clause, api.Errno) {
	by, e := unify(g, c[i.LeftAt].A, c[i.LeftAt].B)
	if e != api.OK {
		return nil, e
	}
	return applied(g, by, without(c, i.LeftAt))
}

func factor(g api.Signature, c api.Clause, i api.Inference) (api.Clause, api.Errno) {
	s, t := tree.Sides(c[i.LeftAt], i.LeftTurned)
	u, v := tree.Sides(c[i.RightAt], i.RightTurned)
	by, e := unify(g, s, u)
	if e != api.OK {
		return nil, e
	}
	if e := falls(g, by, s, t); e != api.OK {
		return nil, e
	}
	return applied(g, by, append(without(c, i.LeftAt), api.Literal{A: t, B: v}))
}

func put(g api.Signature, left, right api.Clause, i api.Inference) (api.Clause, api.Errno) {
	l, r := tree.Sides(left[i.LeftAt], i.LeftTurned)
	u, v := tree.Sides(right[i.RightAt], i.RightTurned)
	by, e := unify(g, tree.Part(u, i.Place), l)
	if e != api.OK {
		return nil, e
	}
	if e := falls(g, by, l, r); e != api.OK {
		return nil, e
	}
	if e := falls(g, by, u, v); e != api.OK {
		return nil, e
	}
	// What is put in makes no term less: if this one has too many parts, so it has once they are.
	u, e = term.Put(g, u, i.Place, r)
	if e != api.OK {
		return nil, e
	}
	return applied(g, by, slices.Concat(without(left, i.LeftAt), withFirst(right, i, u)))
}

// unify is Unify, whose no is an error here.
func unify(g api.Signature, a, b api.Term) ([]api.Binding, api.Errno) {
	by, ok, e := subst.Unify(g, a, b)
	if e == api.OK && !ok {
		e = api.ErrState
	}
	return by, e
}

// falls asks that t, applied, is not greater than s, applied, nor the same.
func falls(g api.Signature, by []api.Binding, s, t api.Term) api.Errno {
	s, e := apply(g, by, s)
	if e != api.OK {
		return e
	}
	t, e = apply(g, by, t)
	if e != api.OK {
		return e
	}
	if rises, _ := order.Greater(g, t, s); rises || tree.Same(s, t) {
		return api.ErrState
	}
	return api.OK
}

// without a literal: the others, in a list of their own.
func without(c api.Clause, at int) api.Clause { return slices.Delete(slices.Clone(c), at, at+1) }

// withFirst: the clause, in a list of its own, in which the inference's second literal has another first side.
func withFirst(c api.Clause, i api.Inference, side api.Term) api.Clause {
	made := slices.Clone(c)
	if i.RightTurned {
		made[i.RightAt].B = side
	} else {
		made[i.RightAt].A = side
	}
	return made
}

// applied: the clause with bindings applied, and tidied.
func applied(g api.Signature, by []api.Binding, c api.Clause) (api.Clause, api.Errno) {
	made := make(api.Clause, len(c))
	for n, l := range c {
		a, e := apply(g, by, l.A)
		if e != api.OK {
			return nil, e
		}
		b, e := apply(g, by, l.B)
		if e != api.OK {
			return nil, e
		}
		made[n] = api.Literal{Yes: l.Yes, A: a, B: b}
	}
	// Tidy takes no more than MaxLiterals, but here it is what it leaves that is counted.
	return clause.Tidy(g, tree.Needed(made))
}

// apply is Apply, which is spared where nothing is put in: it checks and copies all that it is handed, and most literals stay as they are.
func apply(g api.Signature, by []api.Binding, t api.Term) (api.Term, api.Errno) {
	if !touched(by, t) {
		return t, api.OK
	}
	return subst.Apply(g, by, t)
}

// touched: does a variable that is bound stand in a term?
func touched(by []api.Binding, t api.Term) bool {
	if t.Var != 0 {
		return slices.ContainsFunc(by, func(b api.Binding) bool { return b.Var == t.Var })
	}
	return slices.ContainsFunc(t.Args, func(a api.Term) bool { return touched(by, a) })
}
