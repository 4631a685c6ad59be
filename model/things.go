package model

import (
	"slices"

	"superpose/api"
	"superpose/term"
)

// rows is how many ways there are for so many arguments to be things.
func rows(size, arity int) int {
	n := 1
	for range arity {
		n *= size
	}
	return n
}

// allThings: is each number one of so many things?
func allThings(size int, numbers []int) bool {
	return !slices.ContainsFunc(numbers, func(n int) bool { return n < 0 || n >= size })
}

// varsOf a clause that is right, each once.
func varsOf(g api.Signature, c api.Clause) []int {
	var vars []int
	for _, l := range c {
		for _, side := range []api.Term{l.A, l.B} {
			more, _ := term.Vars(g, side)
			vars = append(vars, more...)
		}
	}
	slices.Sort(vars)
	return slices.Compact(vars)
}

// things: which one each variable is.
type things map[int]int

// value of a term that is right, in a model that is.
func (is things) value(m api.Model, t api.Term) int {
	if t.Var != 0 {
		return is[t.Var]
	}
	row := 0
	for _, a := range t.Args {
		row = row*m.Size + is.value(m, a)
	}
	return m.Tables[t.Fn][row]
}

// always: does so hold, whichever of so many things these variables are?
func (is things) always(size int, vars []int, so func() bool) bool {
	if len(vars) == 0 {
		return so()
	}
	for n := range size {
		is[vars[0]] = n
		if !is.always(size, vars[1:], so) {
			return false
		}
	}
	return true
}
