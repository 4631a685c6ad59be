package clause

import (
	"maps"
	"slices"

	"superpose/api"
	"superpose/subst"
	"superpose/term"
	"superpose/tree"
)

// bound: what variables are bound to.
type bound map[int]api.Term

// agrees: is no variable bound to two things?
func (b bound) agrees(o bound) bool {
	for v, to := range b {
		if other, ok := o[v]; ok && !tree.Same(to, other) {
			return false
		}
	}
	return true
}

// allWays: for each literal of c the ways by which it is made one of d's.
// What a literal's own variables are bound to hinders no other one, so it is left out: else ways that differ in that alone would all be tried, those of one literal with those of the others.
func allWays(g api.Signature, c, d api.Clause) [][]bound {
	in := standIn(g, c)
	lists := make([][]bound, len(c))
	for i, l := range c {
		for _, b := range ways(g, l, d) {
			maps.DeleteFunc(b, func(v int, _ api.Term) bool { return in[v] == 1 })
			if !slices.ContainsFunc(lists[i], b.agrees) {
				lists[i] = append(lists[i], b)
			}
		}
	}
	return lists
}

// standIn: in how many literals each variable stands.
func standIn(g api.Signature, c api.Clause) map[int]int {
	in := map[int]int{}
	for _, l := range c {
		a, _ := term.Vars(g, l.A)
		b, _ := term.Vars(g, l.B)
		both := append(a, b...)
		slices.Sort(both)
		for _, v := range slices.Compact(both) {
			in[v]++
		}
	}
	return in
}

// ways by which a literal is made one of d's.
func ways(g api.Signature, l api.Literal, d api.Clause) []bound {
	var list []bound
	add := func(a, b api.Term) {
		if way, ok := match(g, l, a, b); ok {
			list = append(list, way)
		}
	}
	for _, k := range d {
		if k.Yes == l.Yes {
			add(k.A, k.B)
			add(k.B, k.A)
		}
	}
	return list
}

// match a literal's sides with two terms.
func match(g api.Signature, l api.Literal, a, b api.Term) (bound, bool) {
	// Match checks all that it is handed, and mostly it is seen without that.
	if !tree.Covers(l.A, a) || !tree.Covers(l.B, b) {
		return nil, false
	}
	left, ok := matchSide(g, l.A, a)
	if !ok {
		return nil, false
	}
	right, ok := matchSide(g, l.B, b)
	if !ok || !left.agrees(right) {
		return nil, false
	}
	maps.Copy(left, right)
	return left, true
}

func matchSide(g api.Signature, p, t api.Term) (bound, bool) {
	list, ok, _ := subst.Match(g, p, t)
	b := bound{}
	for _, x := range list {
		b[x.Var] = x.To
	}
	return b, ok
}

// fits: can one way be taken of each list, so that all of them agree?
// The shortest list comes first, and of the others only what agrees stays: so what can't be is known soon.
func fits(lists [][]bound) bool {
	if len(lists) == 0 {
		return true
	}
	at := shortest(lists)
	return slices.ContainsFunc(lists[at], func(b bound) bool {
		return fits(agreeing(b, lists[:at], lists[at+1:]))
	})
}

func shortest(lists [][]bound) int {
	at := 0
	for i, l := range lists {
		if len(l) < len(lists[at]) {
			at = i
		}
	}
	return at
}

// agreeing: of each list the ways that agree with one.
func agreeing(b bound, groups ...[][]bound) [][]bound {
	var left [][]bound
	for _, l := range slices.Concat(groups...) {
		var stay []bound
		for _, o := range l {
			if b.agrees(o) {
				stay = append(stay, o)
			}
		}
		left = append(left, stay)
	}
	return left
}
