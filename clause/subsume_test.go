package clause

import (
	"slices"
	"strconv"
	"strings"
	"testing"

	"superpose/api"
	"superpose/subst"
)

func TestF3SubsumesByHand(t *testing.T) {
	for _, c := range []struct {
		c, d string
		want bool
	}{
		// The document's example 6.
		{"X1 = f0", "f0 = f2(f0)", true},

		{"$false", "$false", true},
		{"$false", "f0 = f1", true},
		{"f0 = f1", "$false", false},
		{"f0 != f0", "$false", false},
		{"f0 = f1", "f0 = f1", true},
		{"f0 = f1", "f1 = f0", true},
		{"f0 = f1", "f0 != f1", false},
		{"f0 != f1", "f0 = f1", false},
		{"f0 != f1", "f1 != f0", true},
		{"f0 = f1", "f0 = f1 | f2(f0) = f0", true},
		{"f0 = f1", "X1 != f0 | f1 = f0", true},
		{"f0 = f1 | f2(f0) = f0", "f0 = f1", false},

		// One of d's literals may be that of several of c's.
		{"X1 = X2 | X2 = X1", "f0 = f1", true},
		{"f2(X1) = f0 | f2(X2) = f0", "f2(f1) = f0", true},
		{"X1 = X2 | X3 = X4 | X5 = X6", "f0 = f1", true},
		{"X1 = f0 | f0 = X2", "f1 = f0", true},

		// A variable is one thing in all literals, and on both sides.
		{"X1 = X1", "f0 = f0", true},
		{"X1 = X1", "f0 = f1", false},
		{"X1 = f2(X1)", "f2(f0) = f0", true},
		{"X1 = f2(X1)", "f2(f0) = f1", false},
		{"X1 = X2", "f0 = f0", true},
		{"X1 = f0 | X1 != f1", "f2(f0) = f0 | f1 != f2(f0)", true},
		{"X1 = f0 | X1 != f1", "f2(f0) = f0 | f1 != f2(f1)", false},
		{"f2(X1) = X2 | X2 != X3", "f2(f0) = f1 | f0 != f1", true},
		{"f2(X1) = X2 | X2 != X3", "f2(f0) = f1 | f0 != f0", false},

		// The first way that a literal can go is not always the right one.
		{"f2(X1) = f0 | X1 = f1", "f2(f0) = f0 | f2(f2(f0)) = f0 | f2(f0) = f1", true},
		{"f2(X1) = f0 | X1 = f1", "f2(f0) = f0 | f2(f1) = f0 | f1 = f1", true},
		{"f2(X1) = f0 | X1 = f1", "f2(f0) = f0 | f2(f1) = f0 | f2(f2(f0)) = f1", false},
		{"X1 = X2 | X2 != X3 | X3 = X1", "f0 = f1 | f1 != f2(f0) | f2(f0) = f0", true},
		{"X1 = X2 | X2 != X3 | X3 = X1", "f0 = f1 | f1 != f2(f0) | f2(f1) = f0", false},

		// d's variables are others, and nothing is put in for them.
		{"X1 = f0", "X1 = f0", true},
		{"X1 = f0", "X2 = f0", true},
		{"f0 = f1", "X1 = f1", false},
		{"f2(X1) = X1", "f2(X2) = X2", true},
		{"f2(X1) = X1", "f2(X2) = X1", false},
		{"f2(X1) = X2", "f2(X2) = X1", true},
		{"f2(X1) = X2", "f2(X1) = X1", true},
		{"f3(X1,X2) = f0", "f3(X2,X1) = f0", true},
		{"f3(X1,X1) = f0", "f3(X1,X2) = f0", false},
		{"f3(X1,X2) = f0", "f3(X2,f2(X1)) = f0", true},
		{"f2(X1) = X1 | X1 != f0", "f2(f2(X1)) = f2(X1) | f2(X1) != f0", true},
		{"f2(X1) = X1 | X1 != f0", "f2(f2(X1)) = f2(X1) | X1 != f0", false},

		// Whole sides are matched, not what stands in them; each side by its own.
		{"f0 = f1", "f2(f0) = f2(f1)", false},
		{"X1 = X1", "f2(f0) = f2(f1)", false},
		{"f2(X1) = f0", "f0 = f2(X1)", true},
		{"f2(X1) = f2(X2)", "f2(f0) = f0", false},
		{"f0 != f0", "f0 != f0 | f0 = f1", true},
		{"X1 != X1", "f0 != f1", false},
	} {
		if is, e := Subsumes(small(), parse(c.c), parse(c.d)); e != api.OK || is != c.want {
			t.Errorf("%s and %s: %v %d", c.c, c.d, is, e)
		}
	}
}

// parts of terms, each once.
func parts(terms ...api.Term) []api.Term {
	var l []api.Term
	for _, x := range terms {
		for _, p := range append(parts(x.Args...), x) {
			if !slices.ContainsFunc(l, func(q api.Term) bool { return write(no(p, q)) == write(no(p, p)) }) {
				l = append(l, p)
			}
		}
	}
	return l
}

// made: does putting in make each literal of c one of d's?
func made(b []api.Binding, c, d api.Clause) bool {
	for _, l := range c {
		x, _ := subst.Apply(small(), b, l.A)
		y, _ := subst.Apply(small(), b, l.B)
		one, turned := write(api.Clause{{Yes: l.Yes, A: x, B: y}}), write(api.Clause{{Yes: l.Yes, A: y, B: x}})
		if !slices.ContainsFunc(d, func(k api.Literal) bool {
			s := write(api.Clause{k})
			return s == one || s == turned
		}) {
			return false
		}
	}
	return true
}

// plain: F3's words, with all that stands in d put in for two variables.
func plain(c, d api.Clause) bool {
	all := []api.Term{f(0)}
	for _, k := range d {
		all = append(all, k.A, k.B)
	}
	all = parts(all...)
	for _, x := range all {
		for _, y := range all {
			if made([]api.Binding{{Var: 1, To: x}, {Var: 2, To: y}}, c, d) {
				return true
			}
		}
	}
	return false
}

func TestF3SaysWhatTheWordsSay(t *testing.T) {
	clauses := some(60)
	n := 0
	for _, c := range clauses {
		for _, d := range clauses {
			is, e := Subsumes(small(), c, d)
			if e != api.OK || is != plain(c, d) {
				t.Errorf("%s and %s: %v %d", write(c), write(d), is, e)
			}
			if is && len(c) > 0 {
				n++
			}
		}
	}
	if n < 100 {
		t.Errorf("%d alone are subsumed", n)
	}
}

// put in for a clause's variables, turn its literals, and lay others about them.
func put(c api.Clause, b []api.Binding, other api.Clause) api.Clause {
	d := slices.Clone(other)
	for i, l := range c {
		x, _ := subst.Apply(small(), b, l.A)
		y, _ := subst.Apply(small(), b, l.B)
		if i%2 == 0 {
			x, y = y, x
		}
		d = slices.Insert(d, (i*2)%(len(d)+1), api.Literal{Yes: l.Yes, A: x, B: y})
	}
	return d
}

func TestF3WhateverIsPutIn(t *testing.T) {
	clauses := some(200)
	terms := []api.Term{v(1), v(2), v(9), f(1), f(2, v(1)), f(3, f(1), v(2))}
	for i, c := range clauses {
		for k, x := range terms {
			b := []api.Binding{{Var: 1, To: x}, {Var: 2, To: terms[(k*5+i)%len(terms)]}}
			d := put(c, b, clauses[(i*7+k)%len(clauses)])
			if is, e := Subsumes(small(), c, d); e != api.OK || !is {
				t.Errorf("%s and %s: %v %d", write(c), write(d), is, e)
			}
		}
	}
}

func TestF4SubsumesItself(t *testing.T) {
	for _, c := range some(400) {
		if is, e := Subsumes(small(), c, c); e != api.OK || !is {
			t.Errorf("%s: %v %d", write(c), is, e)
		}
		tidied, _ := Tidy(small(), c)
		if is, e := Subsumes(small(), tidied, c); e != api.OK || !is {
			t.Errorf("%s and %s: %v %d", write(tidied), write(c), is, e)
		}
	}
}

func TestF4WhatOneSubsumesThatAnotherOneDoes(t *testing.T) {
	clauses := some(150)
	var table [][]bool
	for _, c := range clauses {
		var row []bool
		for _, d := range clauses {
			is, _ := Subsumes(small(), c, d)
			row = append(row, is)
		}
		table = append(table, row)
	}
	for i := range clauses {
		for k := range clauses {
			for m := range clauses {
				if table[i][k] && table[k][m] && !table[i][m] {
					t.Errorf("%s, %s, %s", write(clauses[i]), write(clauses[k]), write(clauses[m]))
				}
			}
		}
	}
}

func TestStandInCountsALiteralOnce(t *testing.T) {
	in := standIn(small(), parse("f3(X1,X1) = X1 | X2 = f2(X3) | X3 != X1"))
	if len(in) != 3 || in[1] != 2 || in[2] != 1 || in[3] != 2 {
		t.Errorf("%v", in)
	}
}

// row: n texts with | between, each made of its number.
func row(n int, one func(i string, next string) string) string {
	var l []string
	for i := range n {
		l = append(l, one(strconv.Itoa(i+1), strconv.Itoa((i+1)%n+1)))
	}
	return strings.Join(l, " | ")
}

func TestP1SubsumesEndsSoon(t *testing.T) {
	apart := func(i, _ string) string { return "X1" + i + " = X2" + i }
	round := func(i, next string) string { return "X" + i + " = X" + next }
	pairs := "X1 = X11 | X1 = X12 | X2 = X21 | X2 = X22 | X3 = X31 | X3 = X32"
	// Sixteen sides, no two the same.
	many := row(8, func(i, _ string) string { return "f2(f3(X" + i + ",f0)) = f2(f3(f0,X" + i + "))" })
	star := row(8, func(i, _ string) string { return "f0 = X" + i })
	bipartite := row(4, func(i, _ string) string { return "f0 = X" + i + " | f1 = X" + i })
	for i, c := range []struct {
		c, d string
		want bool
	}{
		{row(8, apart), many, true},
		{row(7, apart) + " | f0 != f0", many, false},
		{row(7, apart) + " | f3(X1,X1) = X2", many, false},
		{row(7, apart) + " | X118 = X118", many, false},
		{row(6, apart) + " | X1 = X2 | f2(X1) = X3", many, false},
		{pairs + " | X4 = X41 | X4 = X42", many, true},
		{pairs + " | X4 = X5 | f2(X4) = X6", many, false},
		{pairs + " | X3 = X4 | X4 = X31", many, false},
		{row(8, round), many, true},
		{row(7, round), many, false},
		{row(8, round), star, true},
		{row(7, round), star, false},
		{row(7, round), bipartite, false},
		{row(5, round) + " | X11 = X12 | X12 = X13 | X13 = X11", bipartite, false},
		{row(6, round), bipartite, true},
		{row(7, round), row(7, round) + " | X1 = X3", true},
		{row(5, round), row(7, round), false},
		{row(3, round), row(7, round) + " | X1 = X3", true},
	} {
		if is, e := Subsumes(small(), parse(c.c), parse(c.d)); e != api.OK || is != c.want {
			t.Errorf("%d: %s and %s: %v %d", i, c.c, c.d, is, e)
		}
	}
	if is, e := Subsumes(small(), most(), most()); e != api.OK || !is {
		t.Errorf("the most variables: %v %d", is, e)
	}
}
