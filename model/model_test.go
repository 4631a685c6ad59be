package model

import (
	"slices"
	"testing"

	"superpose/api"
	"superpose/clause"
	"superpose/text"
)

// small: two things, a function of one, one of two, one of three.
func small() api.Signature { return api.Signature{Arity: []int{0, 0, 1, 2, 3}} }

func v(n int) api.Term { return api.Term{Var: n} }

func f(n int, args ...api.Term) api.Term { return api.Term{Fn: n, Args: args} }

// parse a clause that is the test's own.
func parse(s string) api.Clause {
	c, e := text.ParseClause(small(), s)
	if e != api.OK {
		panic(s)
	}
	return c
}

// parseTerm: a term that is the test's own.
func parseTerm(s string) api.Term {
	x, e := text.ParseTerm(small(), s)
	if e != api.OK {
		panic(s)
	}
	return x
}

// tower: n functions of one argument on a term.
func tower(n int, x api.Term) api.Term {
	for range n {
		x = f(2, x)
	}
	return x
}

// holder: a term that holds itself.
func holder() api.Term {
	args := make([]api.Term, 2)
	args[0], args[1] = f(0), f(3)
	args[1].Args = args
	return args[1]
}

// one thing.
func one() api.Model { return api.Model{Size: 1, Tables: [][]int{{0}, {0}, {0}, {0}, {0}}} }

// two things: f2 makes each the other one, f3 is 1 just of two that are 1, f4 is the first one if the second is 0, else the third.
func two() api.Model {
	return api.Model{Size: 2, Tables: [][]int{{0}, {1}, {1, 0}, {0, 0, 0, 1}, {0, 0, 0, 1, 1, 1, 0, 1}}}
}

// three things: f2 is the next one, f3 the first one less the second, f4 the first one, twice the second, and the third one, together.
func three() api.Model {
	m := api.Model{Size: 3, Tables: [][]int{{0}, {2}, {1, 2, 0}, {}, {}}}
	for a := range 3 {
		for b := range 3 {
			m.Tables[3] = append(m.Tables[3], (a+3-b)%3)
			for c := range 3 {
				m.Tables[4] = append(m.Tables[4], (a+2*b+c)%3)
			}
		}
	}
	return m
}

// draw: numbers that are the same each time.
type draw uint64

func (d *draw) n(n int) int {
	*d = *d*6364136223846793005 + 1442695040888963407
	return int(uint64(*d) >> 33 % uint64(n))
}

// drawn: a model whose tables are drawn.
func drawn(d *draw, size int) api.Model {
	m := api.Model{Size: size}
	for _, arity := range small().Arity {
		n := 1
		for range arity {
			n *= size
		}
		table := make([]int, n)
		for i := range table {
			table[i] = d.n(size)
		}
		m.Tables = append(m.Tables, table)
	}
	return m
}

// with: the model, in new memory, with another table.
func with(m api.Model, n int, table ...int) api.Model {
	m.Tables = slices.Clone(m.Tables)
	m.Tables[n] = table
	return m
}

func TestG1CheckByHand(t *testing.T) {
	constants := func(size, n int) api.Model {
		return api.Model{Size: size, Tables: slices.Repeat([][]int{{0}}, n)}
	}
	none := api.Signature{}
	most := api.Signature{Arity: make([]int, api.MaxFunctions)}
	for i, c := range []struct {
		g    api.Signature
		m    api.Model
		want api.Errno
	}{
		{small(), one(), api.OK},
		{small(), two(), api.OK},
		{small(), three(), api.OK},
		{none, api.Model{Size: 1}, api.OK},
		{none, api.Model{Size: 3, Tables: [][]int{}}, api.OK},
		{most, constants(2, api.MaxFunctions), api.OK},

		// The signature, ahead of all.
		{api.Signature{Arity: []int{4}}, api.Model{Size: 9, Tables: [][]int{{9}}}, api.ErrRange},
		{api.Signature{Arity: make([]int, api.MaxFunctions+1)}, api.Model{}, api.ErrMany},
		{api.Signature{Arity: make([]int, api.MaxFunctions+1)}, constants(1, api.MaxFunctions+1), api.ErrMany},
		{api.Signature{Arity: []int{0, -1}}, constants(1, 2), api.ErrRange},

		// How many things, ahead of the tables.
		{none, api.Model{}, api.ErrRange},
		{none, api.Model{Size: 4}, api.ErrRange},
		{small(), api.Model{Size: 0, Tables: two().Tables}, api.ErrRange},
		{small(), api.Model{Size: -1}, api.ErrRange},
		{small(), api.Model{Size: -1 << 63}, api.ErrRange},
		{small(), api.Model{Size: 1<<63 - 1}, api.ErrRange},
		{small(), api.Model{Size: 4, Tables: [][]int{{9}}}, api.ErrRange},

		// Tables: as many as functions, each with as many numbers as there are arguments.
		{small(), api.Model{Size: 2}, api.ErrForm},
		{none, constants(1, 1), api.ErrForm},
		{small(), api.Model{Size: 2, Tables: two().Tables[:4]}, api.ErrForm},
		{small(), api.Model{Size: 2, Tables: append(two().Tables, []int{0})}, api.ErrForm},
		{small(), api.Model{Size: 2, Tables: append(two().Tables, nil)}, api.ErrForm},
		{small(), api.Model{Size: 2, Tables: three().Tables}, api.ErrForm},
		{small(), api.Model{Size: 3, Tables: two().Tables}, api.ErrForm},
		{small(), with(two(), 0), api.ErrForm},
		{small(), with(two(), 1, 0, 0), api.ErrForm},
		{small(), with(two(), 2, 0), api.ErrForm},
		{small(), with(two(), 3, 0, 0, 0), api.ErrForm},
		{small(), with(two(), 3, 0, 0, 0, 0, 0), api.ErrForm},
		{small(), with(two(), 4, 0, 0, 0, 0), api.ErrForm},
		{small(), with(two(), 4, 0, 0, 0, 0, 0, 0), api.ErrForm},

		// Numbers that are no things, behind what is not of its form in a later table, too.
		{small(), with(two(), 0, 2), api.ErrNone},
		{small(), with(two(), 1, -1), api.ErrNone},
		{small(), with(two(), 2, 0, 2), api.ErrNone},
		{small(), with(two(), 4, 0, 0, 0, 0, 0, 0, 0, 2), api.ErrNone},
		{small(), with(one(), 4, 1), api.ErrNone},
		{small(), with(two(), 2, 1<<63-1, 0), api.ErrNone},
		{small(), with(with(two(), 0, 2), 4, 0), api.ErrForm},
		{small(), api.Model{Size: 2, Tables: with(two(), 0, 2).Tables[:4]}, api.ErrForm},
	} {
		if e := Check(c.g, c.m); e != c.want {
			t.Errorf("%d: %d, not %d", i, e, c.want)
		}
		if c.want == api.OK {
			continue
		}
		for _, x := range []api.Term{v(1), f(9), holder()} {
			n, e := Value(c.g, c.m, x, []int{-1})
			is, h := Holds(c.g, c.m, slices.Repeat(api.Clause{{A: x, B: x}}, 9))
			if n != 0 || is || e != c.want || h != c.want {
				t.Errorf("%d: Value %d %d, Holds %v %d, not %d", i, n, e, is, h, c.want)
			}
		}
	}
}

func TestG2ValueByHand(t *testing.T) {
	for _, c := range []struct {
		m    api.Model
		x    string
		vars []int
		want int
	}{
		{two(), "f0", nil, 0},
		{two(), "f1", nil, 1},
		{two(), "f1", []int{}, 1},
		{two(), "X1", []int{1}, 1},
		{two(), "X1", []int{1, 0, 0}, 1},
		{two(), "X2", []int{1, 0}, 0},
		{two(), "X3", []int{0, 0, 1}, 1},
		{two(), "f2(X2)", []int{1, 0}, 1},
		{two(), "f2(f2(X2))", []int{1, 0}, 0},
		{two(), "f3(f1,f1)", nil, 1},
		{two(), "f3(f0,f1)", nil, 0},
		{two(), "f4(X1,f0,X2)", []int{0, 1}, 0},
		{two(), "f4(X1,f0,X2)", []int{1, 0}, 1},
		{two(), "f4(X1,f1,X2)", []int{0, 1}, 1},
		{two(), "f4(X1,f1,X2)", []int{1, 0}, 0},
		{one(), "f4(X1,f2(X1),f3(X2,f1))", []int{0, 0}, 0},

		// Arguments count like digits, the first one slowest.
		{three(), "f3(X1,X2)", []int{0, 1}, 2},
		{three(), "f3(X1,X2)", []int{1, 0}, 1},
		{three(), "f3(X2,X1)", []int{1, 0}, 2},
		{three(), "f3(X1,X1)", []int{2}, 0},
		{three(), "f4(X1,X2,X3)", []int{0, 1, 0}, 2},
		{three(), "f4(X1,X2,X3)", []int{1, 0, 0}, 1},
		{three(), "f4(X1,X2,X3)", []int{0, 0, 2}, 2},
		{three(), "f4(X3,X2,X1)", []int{0, 2, 2}, 0},
		{three(), "f3(f2(X1),f4(f0,f1,f2(f1)))", []int{2}, 2},
	} {
		if n, e := Value(small(), c.m, parseTerm(c.x), c.vars); n != c.want || e != api.OK {
			t.Errorf("%s %v: %d %d, not %d", c.x, c.vars, n, e, c.want)
		}
	}
}

func TestG2ValueEdges(t *testing.T) {
	vars := make([]int, api.MaxVar)
	vars[api.MaxVar-1] = 1
	if n, e := Value(small(), two(), v(api.MaxVar), vars); n != 1 || e != api.OK {
		t.Errorf("the last variable: %d %d", n, e)
	}
	if n, e := Value(small(), two(), v(api.MaxVar), vars[:api.MaxVar-1]); n != 0 || e != api.ErrForm {
		t.Errorf("the last variable without a thing: %d %d", n, e)
	}
	if n, e := Value(small(), two(), v(1), make([]int, api.MaxVar+5)); n != 0 || e != api.OK {
		t.Errorf("things that no variable has: %d %d", n, e)
	}
	if n, e := Value(small(), three(), tower(119, v(1)), []int{2}); n != 1 || e != api.OK {
		t.Errorf("a great term: %d %d", n, e)
	}
}

func TestG2ValueErrors(t *testing.T) {
	for i, c := range []struct {
		x    api.Term
		vars []int
		want api.Errno
	}{
		// The term, ahead of the things.
		{f(9), nil, api.ErrNone},
		{f(2), []int{7}, api.ErrForm},
		{v(1001), nil, api.ErrRange},
		{v(-1), []int{0}, api.ErrRange},
		{tower(120, v(1)), nil, api.ErrMany},
		{holder(), []int{-1}, api.ErrMany},
		{f(3, v(1), f(9)), nil, api.ErrNone},

		// A variable without a thing, ahead of what is none.
		{v(1), nil, api.ErrForm},
		{v(2), []int{0}, api.ErrForm},
		{v(2), []int{9}, api.ErrForm},
		{f(3, v(1), f(2, v(3))), []int{-1, 0}, api.ErrForm},
		{f(3, v(1), f(2, v(3))), []int{-1, 0, 0}, api.ErrNone},

		// What is no thing, also where no variable has it.
		{v(1), []int{2}, api.ErrNone},
		{v(1), []int{-1}, api.ErrNone},
		{v(1), []int{0, 2}, api.ErrNone},
		{v(2), []int{2, 0}, api.ErrNone},
		{f(0), []int{2}, api.ErrNone},
		{f(0), []int{0, 0, 0, -1 << 63}, api.ErrNone},
		{f(0), []int{1<<63 - 1}, api.ErrNone},
	} {
		if n, e := Value(small(), two(), c.x, c.vars); n != 0 || e != c.want {
			t.Errorf("%d: %d %d, not %d", i, n, e, c.want)
		}
	}
}

func TestG2HoldsByHand(t *testing.T) {
	for _, c := range []struct {
		m    api.Model
		c    string
		want bool
	}{
		{one(), "$false", false},
		{two(), "$false", false},
		{one(), "X1 = X2", true},
		{one(), "f0 != f1", false},
		{one(), "X1 != X1", false},
		{two(), "X1 = X1", true},
		{two(), "X1 = X2", false},
		{two(), "f0 = f1", false},
		{two(), "f0 != f1", true},

		// The document's example 7.
		{two(), "f2(X1) != X1", true},
		{two(), "f2(X1) = X1", false},

		// One literal of several, not always the same one.
		{two(), "X1 = f0 | X1 = f1", true},
		{three(), "X1 = f0 | X1 = f1", false},
		{three(), "X1 = f0 | X1 = f1 | X1 = f2(f0)", true},
		{two(), "X1 = X2 | X2 = X3 | X1 = X3", true},
		{three(), "X1 = X2 | X2 = X3 | X1 = X3", false},
		{three(), "X1 = X2 | X1 = X3 | X1 = X4 | X2 = X3 | X2 = X4 | X3 = X4", true},
		{two(), "X1 != X2 | f2(X1) = f2(X2)", true},
		{two(), "f3(X1,X2) = f3(X2,X1)", true},
		{two(), "f3(X1,f3(X2,X3)) = f3(f3(X1,X2),X3)", true},
		{two(), "f2(f3(X1,X2)) = f3(f2(X1),f2(X2))", false},
		{two(), "f4(X1,X2,X1) = X1", true},
		{two(), "f4(X1,X2,X3) = X1 | X2 = f1", true},
		{two(), "f4(X1,X2,X3) = X1 | X2 = f0", false},
		{three(), "f3(X1,X2) = f3(X2,X1)", false},
		{three(), "f3(X1,f3(X1,X2)) = X2", true},
		{three(), "f3(X1,X2) != f0 | X1 = X2", true},
		{three(), "f2(f2(f2(X1000))) = X1000", true},
		{three(), "f2(X1) = f0 | X1 != f1", true},

		// The last thing of the last variable is the one that tells.
		{three(), "f3(X1,X2) != f2(f0) | X1 != f1", false},
		{three(), "X1 != f1 | X2 != f1", false},
		{three(), "X2 != f1 | X1 != f0", false},
	} {
		if is, e := Holds(small(), c.m, parse(c.c)); is != c.want || e != api.OK {
			t.Errorf("%s of %d things: %v %d", c.c, c.m.Size, is, e)
		}
	}
}

func TestG2HoldsErrors(t *testing.T) {
	no := func(a, b api.Term) api.Clause { return api.Clause{{A: a, B: b}} }
	nine := no(f(4, f(4, v(1), v(2), v(3)), f(4, v(4), v(5), v(6)), f(4, v(7), v(8), v(9))), f(0))
	for i, c := range []struct {
		c    api.Clause
		want api.Errno
	}{
		{make(api.Clause, 9), api.ErrMany},
		{slices.Repeat(no(f(9), f(9)), 9), api.ErrMany},
		{no(f(9), v(1001)), api.ErrNone},
		{no(v(1001), f(9)), api.ErrRange},
		{no(f(0), f(2)), api.ErrForm},
		{no(v(1), tower(120, v(1))), api.ErrMany},
		{no(holder(), holder()), api.ErrMany},

		// More than 8 variables, behind what is wrong in a later literal.
		{nine, api.ErrMany},
		{append(slices.Clone(nine), no(f(0), f(9))...), api.ErrNone},
		{parse("X1 = X2 | X3 = X4 | X5 = X6 | X7 = X8 | X8 = X9"), api.ErrMany},
		{parse("X91 = X2 | X3 = X4 | X5 = X6 | X7 = X8 | X1 = X1"), api.ErrMany},
	} {
		if is, e := Holds(small(), two(), c.c); is || e != c.want {
			t.Errorf("%d: %v %d, not %d", i, is, e, c.want)
		}
	}
}

func TestG2HoldsOfEightVariables(t *testing.T) {
	for _, c := range []struct {
		c    string
		want bool
	}{
		{"X1 = X2 | X3 = X4 | X5 = X6 | X7 = X8", false},
		{"X1 = X2 | X3 = X4 | X5 = X6 | X7 = X8 | X8 = X1 | X8 = X2", true},
		{"f3(X11,X12) = f3(X13,X14) | f3(X15,X16) = f3(X17,X18)", false},
		{"X1000 = X2 | X3 = X4 | X5 = X6 | X7 = X8 | X8 = X1000 | X8 = X2 | f2(X1000) = f0", true},
	} {
		if is, e := Holds(small(), two(), parse(c.c)); is != c.want || e != api.OK {
			t.Errorf("%s: %v %d", c.c, is, e)
		}
	}
}

func TestP1GreatClausesEndSoon(t *testing.T) {
	// Of eight variables, and in each of the ways in which they may be things only the last literal is so.
	deep := f(3, v(1), v(2))
	for n := range 57 {
		deep = f(3, deep, v(n%8+1))
	}
	c := slices.Repeat(api.Clause{{A: deep, B: deep}}, api.MaxLiterals-1)
	c = append(c, api.Literal{Yes: true, A: deep, B: deep})
	if is, e := Holds(small(), three(), c); !is || e != api.OK {
		t.Errorf("%v %d", is, e)
	}
}

// plainValue counts the arguments like digits of one number, and takes what the table has there.
func plainValue(m api.Model, x api.Term, vars []int) int {
	if x.Var != 0 {
		return vars[x.Var-1]
	}
	at, worth := 0, 1
	for i := len(x.Args) - 1; i >= 0; i-- {
		at += plainValue(m, x.Args[i], vars) * worth
		worth *= m.Size
	}
	return m.Tables[x.Fn][at]
}

// plainHolds asks, of all ways in which n variables may be things, whether one literal is so.
func plainHolds(m api.Model, c api.Clause, n int) bool {
	ways := 1
	for range n {
		ways *= m.Size
	}
	for way := range ways {
		vars := make([]int, n)
		for i := range vars {
			vars[i], way = way%m.Size, way/m.Size
		}
		so := false
		for _, l := range c {
			so = so || l.Yes == (plainValue(m, l.A, vars) == plainValue(m, l.B, vars))
		}
		if !so {
			return false
		}
	}
	return true
}

// some terms of at most three variables.
func some() []api.Term {
	var terms []api.Term
	for _, s := range []string{"X1", "X2", "X3", "f0", "f1", "f2(X1)", "f2(f2(X2))", "f3(X1,X2)", "f3(X2,X1)", "f3(f0,X3)", "f3(X1,X1)", "f3(f2(X1),f3(X2,f1))", "f4(X1,X2,X3)", "f4(X3,f0,X1)", "f4(f2(X2),X2,f3(X1,X3))"} {
		terms = append(terms, parseTerm(s))
	}
	return terms
}

// models that are tried: those by hand, and some that are drawn.
func models() []api.Model {
	d := new(draw)
	l := []api.Model{one(), two(), three()}
	for n := range 10 {
		l = append(l, drawn(d, 2+n%2))
	}
	return l
}

// drawnClause has some literals of some terms.
func drawnClause(d *draw) api.Clause {
	c := api.Clause{}
	for range d.n(4) {
		c = append(c, api.Literal{Yes: d.n(3) > 0, A: some()[d.n(15)], B: some()[d.n(15)]})
	}
	return c
}

func TestG2SaysWhatTheWordsSay(t *testing.T) {
	d := new(draw)
	for n, m := range models() {
		for _, x := range some() {
			vars := []int{d.n(m.Size), d.n(m.Size), d.n(m.Size)}
			if got, e := Value(small(), m, x, vars); got != plainValue(m, x, vars) || e != api.OK {
				t.Errorf("%d: %v %v: %d %d", n, x, vars, got, e)
			}
		}
		for range 200 {
			c := drawnClause(d)
			if is, e := Holds(small(), m, c); is != plainHolds(m, c, 3) || e != api.OK {
				t.Errorf("%d: %v: %v %d", n, c, is, e)
			}
		}
	}
}

func TestG3WhatIsSubsumedHolds(t *testing.T) {
	general := []string{"$false", "X1 = X2", "f2(X1) = X1", "f2(X1) != X1", "f2(f2(X1)) = X1", "f3(X1,X2) = f3(X2,X1)", "X1 = f0 | X1 = f1", "f3(X1,X1) = X1", "X1 = X2 | f2(X1) = X2", "f3(X1,X2) != X1 | X2 = f0"}
	special := []string{"f0 = f2(f0)", "f2(f1) = f1 | f0 != f0", "f2(f3(X1,X2)) != f3(X1,X2) | X1 = f0", "X2 = f2(f2(X2))", "f3(f0,f2(X7)) = f3(f2(X7),f0) | f0 = f1", "f2(X1) = f0 | f1 = f2(X1) | X2 = f1", "f3(f2(X3),f2(X3)) = f2(X3)", "f2(f0) = X3 | X3 = f0 | X3 != f1", "f0 = f3(f1,f1) | f1 != f3(f1,f0) | f0 = f0"}
	held := 0
	for _, a := range general {
		for _, b := range append(special, general...) {
			if is, _ := clause.Subsumes(small(), parse(a), parse(b)); !is {
				continue
			}
			for n, m := range models() {
				first, _ := Holds(small(), m, parse(a))
				second, _ := Holds(small(), m, parse(b))
				if first && !second {
					t.Errorf("%d: %s holds, %s does not", n, a, b)
				}
				if first {
					held++
				}
			}
		}
	}
	if held < 50 {
		t.Errorf("only %d held", held)
	}
}

func TestG3AlwaysHolds(t *testing.T) {
	d := new(draw)
	found := 0
	for range 3000 {
		c := drawnClause(d)
		if is, _ := clause.Always(small(), c); !is {
			continue
		}
		found++
		for n, m := range models() {
			if is, e := Holds(small(), m, c); !is || e != api.OK {
				t.Errorf("%d: %v: %v %d", n, c, is, e)
			}
		}
	}
	if found < 50 {
		t.Errorf("only %d found", found)
	}
}
