package subst

import (
	"maps"
	"slices"

	"superpose/api"
	"superpose/tree"
)

// bound: what variables are bound to.
type bound map[int]api.Term

func boundBy(list []api.Binding) bound {
	b := bound{}
	for _, x := range list {
		b[x.Var] = x.To
	}
	return b
}

// apply all bindings at once: nothing is put in for the variables of what was put in.
func (b bound) apply(t api.Term) api.Term {
	if to, ok := b[t.Var]; ok {
		return tree.Copy(to)
	}
	made := api.Term{Var: t.Var, Fn: t.Fn, Args: make([]api.Term, len(t.Args))}
	for i, a := range t.Args {
		made.Args[i] = b.apply(a)
	}
	return made
}

// match binds the pattern's variables; what was bound ahead must be there again.
func (b bound) match(p, t api.Term) bool {
	if p.Var == 0 {
		return t.Var == 0 && p.Fn == t.Fn && slices.EqualFunc(p.Args, t.Args, b.match)
	}
	to, ok := b[p.Var]
	if !ok {
		b[p.Var] = t
		return true
	}
	return tree.Same(to, t)
}

// bindings, rising, in new memory.
func (b bound) bindings() []api.Binding {
	list := make([]api.Binding, 0, len(b))
	for _, v := range slices.Sorted(maps.Keys(b)) {
		list = append(list, api.Binding{Var: v, To: tree.Copy(b[v])})
	}
	return list
}
