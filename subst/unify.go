package subst

import (
	"maps"
	"slices"

	"superpose/api"
)

// part of a term that is made the same as others.
type part struct {
	api.Term
	args []int // the numbers of its arguments
	like int   // the number of a part that it is the same as, towards the one that stands for all of them; that one has its own
	size int   // see measure
}

// endless: there is no counting the parts of a term that stands in itself.
const endless = -1

// unifier makes parts the same, functions too, each two of them at most once: so terms that stand in themselves come to an end, and those that grow by twos come to it soon.
type unifier struct {
	parts []part
	vars  map[int]int // the number of each variable's part: it has one, wherever it stands
}

// add a term's parts, and tell the number of the whole.
func (u *unifier) add(t api.Term) int {
	if n, ok := u.vars[t.Var]; ok {
		return n
	}
	var args []int
	for _, a := range t.Args {
		args = append(args, u.add(a))
	}
	n := len(u.parts)
	u.parts = append(u.parts, part{Term: t, args: args, like: n})
	if t.Var != 0 {
		u.vars[t.Var] = n
	}
	return n
}

// head is the part that stands for all that are the same as this one.
func (u *unifier) head(n int) int {
	for u.parts[n].like != n {
		n = u.parts[n].like
	}
	return n
}

// join makes two parts the same, and their arguments; false, if functions are not.
func (u *unifier) join(a, b int) bool {
	a, b = u.head(a), u.head(b)
	if a == b {
		return true
	}
	// A function, whose Var is 0, stands for variables, and a lesser variable for greater ones.
	if u.parts[a].Var > u.parts[b].Var {
		a, b = b, a
	}
	u.parts[b].like = a
	p, q := u.parts[a], u.parts[b]
	return q.Var != 0 || p.Fn == q.Fn && slices.EqualFunc(p.args, q.args, u.join)
}

// measure counts the parts of what a part has become, as far as one more than MaxSize.
func (u *unifier) measure(n int) int {
	h := u.head(n)
	if u.parts[h].size != 0 {
		return u.parts[h].size
	}
	u.parts[h].size = endless // if it is met again ahead of its end
	size := 1
	for _, a := range u.parts[h].args {
		m := u.measure(a)
		if m == endless {
			return endless
		}
		size = min(size+m, api.MaxSize+1)
	}
	u.parts[h].size = size
	return size
}

// made is what a part has become, in new memory.
func (u *unifier) made(n int) api.Term {
	p := u.parts[u.head(n)]
	t := api.Term{Var: p.Var, Fn: p.Fn, Args: make([]api.Term, len(p.args))}
	for i, a := range p.args {
		t.Args[i] = u.made(a)
	}
	return t
}

// bindings of the variables that have become something else, rising.
func (u *unifier) bindings() []api.Binding {
	var list []api.Binding
	for _, v := range slices.Sorted(maps.Keys(u.vars)) {
		if n := u.vars[v]; u.head(n) != n {
			list = append(list, api.Binding{Var: v, To: u.made(n)})
		}
	}
	return list
}
