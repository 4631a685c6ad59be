package order

import (
	"slices"

	"superpose/api"
)

// part of a term, with its number among all of them.
type part struct {
	api.Term
	number int
	args   []part
}

// numbered: a term as a part, and those that stand in it, from a number on; and the number behind them.
func numbered(t api.Term, from int) (part, int) {
	p := part{Term: t, number: from, args: make([]part, len(t.Args))}
	next := from + 1
	for i, a := range t.Args {
		p.args[i], next = numbered(a, next)
	}
	return p, next
}

// What a part of s is to one of t.
const (
	unasked int8 = iota
	more         // it is greater
	same
	neither
)

// table: what is known of each part of s (a row) and each of t (a column): the same two come up by many ways, and are asked once.
type table struct {
	known   []int8
	columns int
}

// greater: is s greater than t? Both are right.
func greater(s, t api.Term) bool {
	left, rows := numbered(s, 0)
	right, columns := numbered(t, 0)
	k := table{known: make([]int8, rows*columns), columns: columns}
	return k.is(left, right) == more
}

// is: what s is to t.
func (k table) is(s, t part) int8 {
	known := &k.known[s.number*k.columns+t.number]
	if *known == unasked {
		*known = k.ask(s, t)
	}
	return *known
}

// ask by D1's words, but for what D3 spares: where s is greater than each argument of t if it is greater than t, it need not be asked whether an argument of s is, too.
func (k table) ask(s, t part) int8 {
	switch {
	case s.Var != 0 && s.Var == t.Var:
		return same
	case s.Var != 0:
		return neither
	case t.Var != 0 || s.Fn < t.Fn:
		return k.byArgument(s.args, t)
	case s.Fn > t.Fn:
		return k.aboveAll(s, t.args)
	}
	return k.askArguments(s, t)
}

// byArgument: is one of s's arguments t, or greater?
func (k table) byArgument(args []part, t part) int8 {
	if slices.ContainsFunc(args, func(a part) bool { return k.is(a, t) != neither }) {
		return more
	}
	return neither
}

// aboveAll: is s greater than each of t's arguments?
func (k table) aboveAll(s part, args []part) int8 {
	if slices.ContainsFunc(args, func(a part) bool { return k.is(s, a) != more }) {
		return neither
	}
	return more
}

// askArguments of two parts of one function. Behind the first ones that are not the same there is less to ask: if that of s is greater, s is greater than all of t's as far as that; if not, none of s's as far as that is t, or greater.
func (k table) askArguments(s, t part) int8 {
	for i, a := range s.args {
		switch k.is(a, t.args[i]) {
		case more:
			return k.aboveAll(s, t.args[i+1:])
		case neither:
			return k.byArgument(s.args[i+1:], t)
		}
	}
	return same
}
