package order

import (
	"slices"

	"superpose/api"
	"superpose/tree"
)

// part of a term, with its number among all of them.
type part struct {
	api.Term
	number int
	args   []part
}

// numbered: a term as a part, and those that stand in it, from a number on; and the number behind them.
func numbered(t api.Term, from int) (part, int) {
	p := part{Term: t, number: from, args: make([]part, len(t.Args))}
	next := from + 1
	for i, a := range t.Args {
		p.args[i], next = numbered(a, next)
	}
	return p, next
}

// What a table says of two parts.
const (
	unasked int8 = iota
	yes
	no
)

// table: what is known of each part of the one term and each of the other one: the same two come up by many ways, and are asked once.
type table [][]int8

// greater asks by D1's words, of terms that are right.
func greater(s, t api.Term) bool {
	left, rows := numbered(s, 0)
	right, columns := numbered(t, 0)
	known := make(table, rows)
	for i := range known {
		known[i] = make([]int8, columns)
	}
	return known.greater(left, right)
}

func (k table) greater(s, t part) bool {
	known := &k[s.number][t.number]
	if *known == unasked {
		*known = no
		if k.ask(s, t) {
			*known = yes
		}
	}
	return *known == yes
}

func (k table) ask(s, t part) bool {
	switch {
	case s.Var != 0:
		return false
	case t.Var != 0:
		return stands(t.Var, s.Term)
	case slices.ContainsFunc(s.args, func(a part) bool { return tree.Same(a.Term, t.Term) || k.greater(a, t) }):
		return true
	case s.Fn < t.Fn || slices.ContainsFunc(t.args, func(a part) bool { return !k.greater(s, a) }):
		return false
	}
	return s.Fn > t.Fn || k.firstGreater(s, t)
}

// stands: does a variable stand in a term?
func stands(v int, t api.Term) bool {
	return t.Var == v || slices.ContainsFunc(t.Args, func(a api.Term) bool { return stands(v, a) })
}

// firstGreater: of the first arguments that are not the same, is that of s greater?
func (k table) firstGreater(s, t part) bool {
	for i, a := range s.args {
		if !tree.Same(a.Term, t.args[i].Term) {
			return k.greater(a, t.args[i])
		}
	}
	return false
}
