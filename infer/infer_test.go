package infer

import (
	"slices"
	"strings"
	"testing"

	"superpose/api"
	"superpose/text"
)

// small: two things, a function of one, one of two, one of three.
func small() api.Signature { return api.Signature{Arity: []int{0, 0, 1, 2, 3}} }

func v(n int) api.Term { return api.Term{Var: n} }

func f(n int, args ...api.Term) api.Term { return api.Term{Fn: n, Args: args} }

// parse clauses that are the test's own.
func parse(texts ...string) []api.Clause {
	var l []api.Clause
	for _, s := range texts {
		c, e := text.ParseClause(small(), s)
		if e != api.OK {
			panic(s)
		}
		l = append(l, c)
	}
	return l
}

func write(c api.Clause) string {
	s, e := text.Clause(small(), c)
	if e != api.OK {
		return "no clause"
	}
	return s
}

// tower: n functions of one argument on a term.
func tower(n int, x api.Term) api.Term {
	for range n {
		x = f(2, x)
	}
	return x
}

// holder: a term that holds itself.
func holder() api.Term {
	args := make([]api.Term, 2)
	args[0], args[1] = f(0), f(3)
	args[1].Args = args
	return args[1]
}

func yes(a, b api.Term) api.Literal { return api.Literal{Yes: true, A: a, B: b} }

func no(a, b api.Term) api.Literal { return api.Literal{A: a, B: b} }

// comesTo asks that of an inference comes what has this text, or this error.
func comesTo(t *testing.T, l []api.Clause, i api.Inference, s string, want api.Errno) {
	t.Helper()
	c, e := Infer(small(), l, i)
	if e != want || e == api.OK && write(c) != s || e != api.OK && len(c) != 0 {
		t.Errorf("%v: %s %d, not %s %d", i, write(c), e, s, want)
	}
}

func TestH1Same(t *testing.T) {
	for _, c := range []struct {
		c    string
		at   int
		want string
	}{
		// The document's example 9.
		{"f0 != f0", 0, "$false"},
		{"X1 != X1", 0, "$false"},
		{"X1 != f0 | f2(X1) = X2", 0, "f2(f0) = X1"},
		{"f0 != X1 | f2(X1) = X2", 0, "f2(f0) = X1"},
		{"f2(X1) = X2 | f2(X1) != f2(f3(X2,X3))", 1, "f2(f3(X1,X2)) = X1"},
		{"f0 = X5 | X5 != X3 | X3 != f1", 1, "f0 = X1 | X1 != f1"},
		{"f0 = X5 | X5 != X3 | X3 != f1", 2, "f0 = X1 | X1 != f1"},
		{"X1 != f3(X2,f0) | X1 != f3(f1,X3)", 0, "f3(X1,f0) != f3(f1,X2)"},
		// No side need be greater.
		{"f2(X1) != X2 | f0 = X1", 0, "f0 = X1"},

		// What comes is tidied.
		{"X1 != X2 | X1 = X3 | X2 = X3", 0, "X1 = X2"},
		{"X1 != X2 | X1 = X3 | X3 = X2", 0, "X1 = X2"},
		{"X9 != f0 | X9 != f0 | X7 = f1", 0, "X1 = f1"},
		{"f0 != X1 | X1 != X2 | X3 = f2(X2)", 1, "f0 != X1 | X2 = f2(X1)"},
		{"f0 = f0 | f1 != f1", 1, "f0 = f0"},
		{"X1000 = X999 | f2(X1000) != X998", 1, "X1 = X2"},
	} {
		comesTo(t, parse(c.c), api.Inference{Kind: api.InferSame, LeftAt: c.at}, c.want, api.OK)
		comesTo(t, parse("f0 = f1", "$false", c.c), api.Inference{Kind: api.InferSame, Left: 2, LeftAt: c.at}, c.want, api.OK)
	}
	for _, c := range []struct {
		c  string
		at int
	}{
		{"f0 = f0", 0},
		{"f0 != f1", 0},
		{"X1 = X1 | X1 != f0", 0},
		{"X1 != f2(X1)", 0},
		{"f0 != f0 | f3(X1,f2(X1)) != f3(X2,X2)", 1},
	} {
		comesTo(t, parse(c.c), api.Inference{Kind: api.InferSame, LeftAt: c.at}, "", api.ErrState)
	}
}

func TestH1Factor(t *testing.T) {
	for _, c := range []struct {
		c    string
		i    api.Inference
		want string
	}{
		{"f2(X1) = f0 | f2(f1) = X2", api.Inference{RightAt: 1}, "f2(f1) = X1 | f0 != X1"},
		{"f2(X1) = f0 | f2(f1) = X2", api.Inference{LeftAt: 1}, "f2(f1) = f0 | X1 != f0"},
		{"f0 = f2(X1) | f2(f1) = X2", api.Inference{RightAt: 1, LeftTurned: true}, "f2(f1) = X1 | f0 != X1"},
		{"f2(X1) = f0 | X2 = f2(f1)", api.Inference{RightAt: 1, RightTurned: true}, "X1 = f2(f1) | f0 != X1"},
		{"f0 = f2(X1) | X2 = f2(f1)", api.Inference{RightAt: 1, LeftTurned: true, RightTurned: true}, "X1 = f2(f1) | f0 != X1"},
		// Behind all, and the rest as it stood.
		{"f1 = X9 | f2(X1) = f0 | f0 != X1 | f2(X2) = X3", api.Inference{LeftAt: 1, RightAt: 3}, "f1 = X1 | f0 != X2 | f2(X2) = X3 | f0 != X3"},
		{"f1 = X9 | f2(X1) = f0 | f0 != X1 | f2(X2) = X3", api.Inference{LeftAt: 3, RightAt: 1}, "f1 = X1 | f2(X2) = f0 | f0 != X2 | X3 != f0"},

		// Of the two other sides only the first literal's must fall, and it may be that neither is greater.
		{"f2(f0) = f0 | f2(X2) = f3(f0,f0)", api.Inference{RightAt: 1}, "f2(f0) = f3(f0,f0) | f0 != f3(f0,f0)"},
		{"f2(X1) = f3(f0,f0) | f2(X2) = f0", api.Inference{RightAt: 1}, "f2(X1) = f0 | f3(f0,f0) != f0"},
		{"f2(X1) = f0 | f2(X2) = f2(X2)", api.Inference{RightAt: 1}, "f2(X1) = f2(X1) | f0 != f2(X1)"},
		{"X1 = f0 | X2 = f1", api.Inference{RightAt: 1}, "X1 = f1 | f0 != f1"},
		{"f3(X1,X2) = f3(X2,X1) | f3(X3,X4) = X4", api.Inference{RightAt: 1}, "f3(X1,X2) = X2 | f3(X2,X1) != X2"},

		// What comes is tidied.
		{"f2(X1) = f0 | f2(f0) = f0", api.Inference{RightAt: 1}, "f2(f0) = f0"},
		{"f2(X7) = X4 | f2(X7) = X5 | X4 != X5", api.Inference{RightAt: 1}, "f2(X1) = X2 | X3 != X2"},
	} {
		c.i.Kind = api.InferFactor
		comesTo(t, parse(c.c), c.i, c.want, api.OK)
		c.i.Left = 1
		comesTo(t, parse("f0 = f1", c.c), c.i, c.want, api.OK)
	}
	for _, c := range []struct {
		c string
		i api.Inference
	}{
		{"f2(X1) = f0 | f2(f1) = X2", api.Inference{}},
		{"f2(X1) = f0 | f2(f1) = X2", api.Inference{LeftAt: 1, RightAt: 1, RightTurned: true}},
		{"f2(X1) != f0 | f2(f1) = X2", api.Inference{RightAt: 1}},
		{"f2(X1) = f0 | f2(f1) != X2", api.Inference{RightAt: 1}},
		{"f2(X1) = f0 | f3(f1,f1) = X2", api.Inference{RightAt: 1}},
		// The other side is greater, or the same, or comes to be so.
		{"f0 = f2(X1) | f0 = X2", api.Inference{RightAt: 1}},
		{"f2(f0) = f3(f0,f0) | f2(X2) = f0", api.Inference{RightAt: 1}},
		{"f0 = f0 | f0 = f1", api.Inference{RightAt: 1}},
		{"X1 = f0 | f0 = f1", api.Inference{RightAt: 1}},
		{"f2(X1) = X2 | f2(X2) = f0", api.Inference{RightAt: 1, LeftTurned: true}},
		{"f3(X1,X2) = f3(X2,X1) | f3(f0,f1) = f0", api.Inference{RightAt: 1}},
	} {
		c.i.Kind = api.InferFactor
		comesTo(t, parse(c.c), c.i, "", api.ErrState)
	}
}

func TestH1Put(t *testing.T) {
	for _, c := range []struct {
		left, right string
		i           api.Inference
		want        string
	}{
		// The document's example 8.
		{"f2(X1) = f0", "f2(f0) != f0", api.Inference{}, "$false"},
		{"f2(X1) = f0", "f2(f0) = f0", api.Inference{}, "f0 = f0"},
		{"f2(X1) = f0", "f2(f2(f1)) != f0", api.Inference{Place: []int{0}}, "f2(f0) != f0"},
		{"f0 = f2(X1)", "f2(f2(f1)) != f0", api.Inference{LeftTurned: true, Place: []int{0}}, "f2(f0) != f0"},
		{"f2(X1) = f0", "f0 = f3(f2(X2),X2)", api.Inference{RightTurned: true, Place: []int{0}}, "f0 = f3(f0,X1)"},
		{"f2(X1) = X1", "f4(X1,f3(f0,f2(f2(X1))),X2) != f0", api.Inference{Place: []int{1, 1, 0}}, "f4(X1,f3(f0,f2(X1)),X2) != f0"},

		// The second one's variables are others.
		{"f2(X1) = X1", "f3(X1,f2(X2)) != X2", api.Inference{Place: []int{1}}, "f3(X1,X2) != X2"},
		{"f2(X1) = X1 | X2 = f0", "f3(X1,f2(X2)) != X1 | X2 = f1", api.Inference{Place: []int{1}}, "X1 = f0 | f3(X2,X3) != X2 | X3 = f1"},
		{"f3(X2,f0) = X2", "f3(X2,X1) != f1", api.Inference{}, "X1 != f1"},
		{"f2(X500) = f0", "f2(f2(X500)) != X500", api.Inference{}, "f0 != X1"},
		{"f2(f2(X1)) = X1", "f2(f2(X1)) = X1", api.Inference{Place: []int{0}}, "f2(X1) = f2(X1)"},

		// First what the first one has else, then the second one.
		{"X1 = f1 | f2(X1) = f0 | f1 != X2", "X1 = X2 | f2(X1) != f0 | f0 != X2", api.Inference{LeftAt: 1, RightAt: 1}, "X1 = f1 | f1 != X2 | X1 = X3 | f0 != X3"},
		{"X1 = f1 | f2(X1) = f0 | f1 != X2", "X1 = X2 | f2(X1) = f2(X2) | f0 != X2", api.Inference{LeftAt: 1, RightAt: 1}, "X1 = f1 | f1 != X2 | X1 = X3 | f0 = f2(X3) | f0 != X3"},
		{"X1 = f1 | f2(X1) = f0 | f1 != X2", "X1 = X2 | f2(X1) = f2(X2) | f0 != X2", api.Inference{LeftAt: 1, RightAt: 1, RightTurned: true}, "X1 = f1 | f1 != X2 | X3 = X1 | f2(X3) = f0 | f0 != X1"},

		// A side that is a variable, and two of which neither is greater.
		{"X1 = f0", "f2(f1) != f0", api.Inference{Place: []int{0}}, "f2(f0) != f0"},
		{"X1 = X2", "f2(f1) != f0", api.Inference{}, "X1 != f0"},
		{"X1 = X2", "f2(f1) != X1", api.Inference{LeftTurned: true, Place: []int{0}}, "f2(X1) != X2"},
		{"f3(X1,X2) = f3(X2,X1)", "f3(X1,X2) = f3(X2,X1)", api.Inference{}, "f3(X1,X2) = f3(X1,X2)"},
		{"f3(X1,X2) = f3(X2,X1)", "f2(f3(X2,X1)) != f2(X3)", api.Inference{Place: []int{0}}, "f2(f3(X1,X2)) != f2(X3)"},
	} {
		l := parse("f0 = f1", c.right, c.left)
		c.i.Kind, c.i.Left, c.i.Right = api.InferPut, 2, 1
		comesTo(t, l, c.i, c.want, api.OK)
		if c.left == c.right {
			c.i.Right = 2
			comesTo(t, l, c.i, c.want, api.OK)
		}
	}
	for _, c := range []struct {
		left, right string
		i           api.Inference
	}{
		{"f2(X1) != f0", "f2(f0) != f0", api.Inference{}},
		{"f2(X1) = f0 | f0 != f0", "f2(f0) != f0", api.Inference{LeftAt: 1}},
		{"f2(X1) = f0", "f2(X1) != f0", api.Inference{Place: []int{0}}},
		{"f2(X1) = f0", "f2(f0) != X1", api.Inference{RightTurned: true}},
		{"f2(X1) = f0", "f3(f0,f0) != f0", api.Inference{}},
		{"f3(X1,X1) = f0", "f3(X1,f2(X1)) != f0", api.Inference{}},
		// The other side of the first literal is greater, or the same, or comes to be so.
		{"f2(X1) = f0", "f2(f0) != f1", api.Inference{LeftTurned: true, Place: []int{0}}},
		{"f2(X1) = f2(X1)", "f2(f0) != f0", api.Inference{}},
		{"X1 = f1", "f2(f0) != f0", api.Inference{Place: []int{0}}},
		{"X1 = f0", "f2(f0) != f0", api.Inference{Place: []int{0}}},
		{"f3(X1,X2) = f3(X2,X1)", "f3(f0,f1) != f0", api.Inference{}},
		{"f3(X1,X2) = f3(X2,X1)", "f3(f0,f0) != f0", api.Inference{}},
		// And that of the second one.
		{"f2(X1) = f0", "f2(f0) != f3(f0,f0)", api.Inference{}},
		{"f2(X1) = f0", "f2(f0) = f2(f0)", api.Inference{}},
		{"f2(f0) = f0", "f2(X1) != f3(X1,X1)", api.Inference{}},
		{"f2(f0) = f0", "f3(f2(X1),X2) != f3(f2(f0),X2)", api.Inference{Place: []int{0}}},
		{"f3(f0,f1) = f0", "f3(X1,X2) != f3(X2,X1)", api.Inference{}},
	} {
		c.i.Kind, c.i.Right = api.InferPut, 1
		comesTo(t, parse(c.left, c.right), c.i, "", api.ErrState)
	}
}

func TestH2WhatIsNamed(t *testing.T) {
	l := parse("f2(X1) = f0 | f2(X2) = X1", "f2(f2(X1)) != f1 | f0 = X1", "$false", "f0 != f3(f0,X1)")
	few := l[:1]
	for i, c := range []struct {
		l    []api.Clause
		i    api.Inference
		want api.Errno
	}{
		// The list, ahead of all.
		{make([]api.Clause, api.MaxClauses+1), api.Inference{}, api.ErrMany},
		{[]api.Clause{make(api.Clause, api.MaxLiterals+1)}, api.Inference{Kind: 1}, api.ErrMany},
		{[]api.Clause{{no(f(9), v(1))}}, api.Inference{}, api.ErrNone},
		{[]api.Clause{l[1], {no(f(0), v(1001))}}, api.Inference{Kind: 1, Left: 9}, api.ErrRange},
		{[]api.Clause{{no(holder(), f(9))}}, api.Inference{Kind: 3}, api.ErrMany},
		{[]api.Clause{l[0], {yes(f(0), f(2))}}, api.Inference{Kind: 4}, api.ErrForm},

		// The kind, ahead of what is not there.
		{l, api.Inference{}, api.ErrKind},
		{l, api.Inference{Kind: 4, Left: 9}, api.ErrKind},
		{l, api.Inference{Kind: -1, Left: -1, Place: []int{9}}, api.ErrKind},
		{nil, api.Inference{Kind: 0}, api.ErrKind},

		// What is not there, ahead of what must be nothing.
		{nil, api.Inference{Kind: 1}, api.ErrNone},
		{nil, api.Inference{Kind: 2}, api.ErrNone},
		{nil, api.Inference{Kind: 3}, api.ErrNone},
		{l, api.Inference{Kind: 1, Left: 4}, api.ErrNone},
		{l, api.Inference{Kind: 1, Left: -1}, api.ErrNone},
		{l, api.Inference{Kind: 1, Left: -1 << 63}, api.ErrNone},
		{l, api.Inference{Kind: 1, Left: 1<<63 - 1}, api.ErrNone},
		{l, api.Inference{Kind: 1, Left: 1, LeftAt: 2}, api.ErrNone},
		{l, api.Inference{Kind: 1, Left: 1, LeftAt: -1}, api.ErrNone},
		{l, api.Inference{Kind: 1, Left: 2}, api.ErrNone},
		{l, api.Inference{Kind: 1, Left: 1, LeftAt: 2, Right: 1}, api.ErrNone},
		{l, api.Inference{Kind: 1, Left: 4, Place: []int{0}}, api.ErrNone},
		{l, api.Inference{Kind: 2, RightAt: 2}, api.ErrNone},
		{l, api.Inference{Kind: 2, RightAt: -1}, api.ErrNone},
		{l, api.Inference{Kind: 2, LeftAt: 2, RightAt: 1}, api.ErrNone},
		{l, api.Inference{Kind: 2, Left: 2}, api.ErrNone},
		{l, api.Inference{Kind: 2, Left: 4, Right: 1}, api.ErrNone},
		{l, api.Inference{Kind: 2, RightAt: 2, Right: 1, Place: []int{0}}, api.ErrNone},
		{l, api.Inference{Kind: 3, Right: 4}, api.ErrNone},
		{l, api.Inference{Kind: 3, Right: -1}, api.ErrNone},
		{l, api.Inference{Kind: 3, Right: 2}, api.ErrNone},
		{l, api.Inference{Kind: 3, Left: 2, Right: 1}, api.ErrNone},
		{l, api.Inference{Kind: 3, Left: 4, Right: 1}, api.ErrNone},
		{l, api.Inference{Kind: 3, LeftAt: 2, Right: 1}, api.ErrNone},
		{l, api.Inference{Kind: 3, Right: 1, RightAt: 2}, api.ErrNone},
		{l, api.Inference{Kind: 3, Right: 1, RightAt: -1}, api.ErrNone},
		// The place is one of the first side, and of the second clause.
		{l, api.Inference{Kind: 3, Right: 1, Place: []int{1}}, api.ErrNone},
		{l, api.Inference{Kind: 3, Right: 1, Place: []int{-1}}, api.ErrNone},
		{l, api.Inference{Kind: 3, Right: 1, Place: []int{0, 0, 0}}, api.ErrNone},
		{l, api.Inference{Kind: 3, Right: 1, Place: make([]int, 1<<18)}, api.ErrNone},
		{l, api.Inference{Kind: 3, Right: 1, RightTurned: true, Place: []int{0}}, api.ErrNone},
		{l, api.Inference{Kind: 3, Right: 3, Place: []int{1}}, api.ErrNone},
		{l, api.Inference{Kind: 3, Right: 3, RightTurned: true, Place: []int{1}}, api.ErrState},
		{l, api.Inference{Kind: 3, Right: 3, RightTurned: true, Place: []int{2}}, api.ErrNone},
		// Also where the literal is not yes.
		{l, api.Inference{Kind: 3, Left: 1, Right: 1, Place: []int{1}}, api.ErrNone},

		// What must be nothing, ahead of what is not so; it need not be there.
		{few, api.Inference{Kind: 1, Right: 1}, api.ErrForm},
		{few, api.Inference{Kind: 1, Right: -1}, api.ErrForm},
		{few, api.Inference{Kind: 1, RightAt: 1}, api.ErrForm},
		{few, api.Inference{Kind: 1, RightAt: 99}, api.ErrForm},
		{few, api.Inference{Kind: 1, LeftTurned: true}, api.ErrForm},
		{few, api.Inference{Kind: 1, RightTurned: true}, api.ErrForm},
		{few, api.Inference{Kind: 1, Place: []int{0}}, api.ErrForm},
		{few, api.Inference{Kind: 1, Place: []int{-5, 99}}, api.ErrForm},
		{few, api.Inference{Kind: 2, Right: 1}, api.ErrForm},
		{few, api.Inference{Kind: 2, Right: -9, RightAt: 1}, api.ErrForm},
		{few, api.Inference{Kind: 2, RightAt: 1, Place: []int{0}}, api.ErrForm},
		{few, api.Inference{Kind: 1, Place: []int{}}, api.ErrState},
		{few, api.Inference{Kind: 2, Place: []int{}}, api.ErrState},
		{few, api.Inference{Kind: 2, LeftTurned: true, RightTurned: true}, api.ErrState},
	} {
		got, e := Infer(small(), c.l, c.i)
		if e != c.want || len(got) != 0 {
			t.Errorf("%d: %v: %s %d, not %d", i, c.i, write(got), e, c.want)
		}
	}
}

func TestH2SignatureFirst(t *testing.T) {
	for _, c := range []struct {
		g    api.Signature
		want api.Errno
	}{
		{api.Signature{Arity: []int{0, 4}}, api.ErrRange},
		{api.Signature{Arity: make([]int, api.MaxFunctions+1)}, api.ErrMany},
	} {
		for _, l := range [][]api.Clause{nil, parse("f0 = f0"), make([]api.Clause, 99)} {
			d, e := Infer(c.g, l, api.Inference{Kind: 9})
			all, h := All(c.g, l, -7, 7)
			if e != c.want || h != c.want || len(d) != 0 || len(all) != 0 {
				t.Errorf("%v: %v %d, %v %d, not %d", c.g, d, e, all, h, c.want)
			}
		}
	}
}

func TestH2VariablesMadeOthers(t *testing.T) {
	put := api.Inference{Kind: api.InferPut, Right: 1}
	inner := api.Inference{Kind: api.InferPut, Right: 1, Place: []int{0}}
	second := api.Inference{Kind: api.InferPut, Right: 1, LeftAt: 1}
	for i, c := range []struct {
		left, right string
		i           api.Inference
		want        api.Errno
	}{
		{"f2(X999) = f0", "f2(f2(X1)) != X1", put, api.OK},
		{"f2(X999) = f0", "f2(f2(X2)) != X2", put, api.ErrMany},
		{"f2(X1) = f0", "f2(f2(X999)) != X999", put, api.OK},
		{"f2(X1) = f0", "f2(f2(X1000)) != X1000", put, api.ErrMany},
		{"f2(f1) = f0", "f2(f1) != X1000", put, api.OK},
		{"f2(X1000) = f0", "f2(f1) != f1", put, api.OK},
		{"f2(X500) = f0", "f2(X500) != f1", put, api.OK},
		{"f2(X500) = f0", "f2(X501) != f1", put, api.ErrMany},

		// The greatest one of all literals of the first one, and each of the second one.
		{"f2(X1) = f0 | f0 = X999", "f2(f1) != f1 | X1 = f0", put, api.OK},
		{"f2(X1) = f0 | f0 = X999", "f2(f1) != f1 | X2 = f0", put, api.ErrMany},
		{"f2(X999) = f0 | f0 = X1", "f2(f1) != f1 | X2 = f0", put, api.ErrMany},
		{"f3(f0,X999) = f0 | f2(X1) = f0", "f2(f1) != f1 | f0 = f2(X2)", second, api.ErrMany},

		// Behind literals that are not as they must be, and variables at the place; ahead of what can't be made the same.
		{"f2(X999) != f0", "f2(X2) != f1", put, api.ErrState},
		{"f2(X999) = f0", "f2(X2) != f1", inner, api.ErrState},
		{"f2(X999) = f0", "f3(X2,X2) != f1", put, api.ErrMany},
		{"f2(X999) = f0", "f3(X1,X1) != f1", put, api.ErrState},
		{"f0 = f2(X999)", "f0 != f2(X2)", put, api.ErrMany},

		// Of one clause alone none is made another one.
		{"f2(X999) != f2(X1000) | X2 = f0", "f0 = f0", api.Inference{Kind: api.InferSame}, api.OK},
		{"f2(X999) = f0 | f2(X1000) = X1", "f0 = f0", api.Inference{Kind: api.InferFactor, RightAt: 1}, api.OK},
	} {
		d, e := Infer(small(), parse(c.left, c.right), c.i)
		if e != c.want || e != api.OK && len(d) != 0 {
			t.Errorf("%d: %s %d, not %d", i, write(d), e, c.want)
		}
	}
}

func TestH2TooGreat(t *testing.T) {
	put := api.Inference{Kind: api.InferPut, Right: 1}
	factor := api.Inference{Kind: api.InferFactor, RightAt: 1}
	same := api.Inference{Kind: api.InferSame}
	twice := func(x api.Term) api.Term { return f(3, x, x) }
	inner := api.Inference{Kind: api.InferPut, Right: 1, Place: []int{1}}
	deep := api.Inference{Kind: api.InferPut, Right: 1, Place: slices.Repeat([]int{0}, 80)}
	for i, c := range []struct {
		left, right api.Clause
		i           api.Inference
		want        api.Errno
	}{
		// What is made the same.
		{api.Clause{no(twice(v(1)), f(3, v(2), tower(58, v(3))))}, nil, same, api.OK},
		{api.Clause{no(twice(v(1)), f(3, v(2), tower(59, v(3))))}, nil, same, api.ErrMany},
		{api.Clause{no(f(4, v(1), v(1), f(0)), f(4, v(2), tower(59, v(3)), f(1)))}, nil, same, api.ErrState},
		{api.Clause{yes(twice(v(1)), f(0)), yes(f(3, v(2), tower(58, v(3))), f(0))}, nil, factor, api.OK},
		{api.Clause{yes(twice(v(1)), f(0)), yes(f(3, v(2), tower(59, v(3))), f(0))}, nil, factor, api.ErrMany},
		{api.Clause{yes(twice(v(1)), f(0))}, api.Clause{no(f(3, v(2), tower(58, v(3))), f(0))}, put, api.OK},
		{api.Clause{yes(twice(v(1)), f(0))}, api.Clause{no(f(3, v(2), tower(59, v(3))), f(0))}, put, api.ErrMany},

		// What comes.
		{api.Clause{no(v(1), tower(58, v(2))), yes(twice(v(1)), f(0))}, nil, same, api.OK},
		{api.Clause{no(v(1), tower(59, v(2))), yes(twice(v(1)), f(0))}, nil, same, api.ErrMany},
		{api.Clause{no(v(1), tower(59, v(2))), yes(f(0), twice(v(1)))}, nil, same, api.ErrMany},
		// It is too great even where it is the same on both sides, and goes.
		{api.Clause{no(v(1), tower(59, v(2))), no(twice(v(1)), twice(v(1)))}, nil, same, api.ErrMany},
		// As great as may be.
		{api.Clause{yes(f(3, v(1), f(0)), f(0)), yes(f(3, tower(117, v(2)), f(0)), f(1))}, nil, factor, api.OK},

		// Two that are compared, ahead of whether the one is greater.
		{api.Clause{yes(f(2, v(1)), twice(v(1))), yes(f(2, tower(59, v(2))), f(0))}, nil, factor, api.ErrMany},
		{api.Clause{yes(f(2, v(1)), twice(v(1))), yes(f(2, tower(58, v(2))), f(0))}, nil, factor, api.ErrState},
		{api.Clause{yes(f(4, v(1), v(2), v(2)), twice(v(1))), yes(f(4, tower(59, v(3)), v(4), v(4)), f(0))}, nil, factor, api.ErrMany},
		{api.Clause{yes(f(4, v(1), v(2), v(2)), twice(v(1))), yes(f(4, tower(58, v(3)), v(4), v(4)), f(0))}, nil, factor, api.OK},
		{api.Clause{yes(f(3, v(1), f(0)), tower(60, v(1)))}, api.Clause{no(f(3, tower(59, v(1)), f(0)), f(0))}, put, api.OK},
		{api.Clause{yes(f(3, v(1), f(0)), tower(60, v(1)))}, api.Clause{no(f(3, tower(60, v(1)), f(0)), f(0))}, put, api.ErrMany},
		// The second one's first side, then its other one.
		{api.Clause{yes(f(2, f(2, tower(57, f(0)))), f(0))}, api.Clause{no(f(3, v(1), f(2, v(1))), f(0))}, inner, api.OK},
		{api.Clause{yes(f(2, f(2, tower(58, f(0)))), f(0))}, api.Clause{no(f(3, v(1), f(2, v(1))), f(0))}, inner, api.ErrMany},
		{api.Clause{yes(f(2, tower(58, f(0))), f(0))}, api.Clause{no(f(3, f(0), f(2, v(1))), twice(v(1)))}, inner, api.ErrState},
		{api.Clause{yes(f(2, tower(59, f(0))), f(0))}, api.Clause{no(f(3, f(0), f(2, v(1))), twice(v(1)))}, inner, api.ErrMany},

		// What is not so of two is told ahead of what is too great in the next two, and in what comes.
		{api.Clause{yes(f(2, v(1)), f(3, v(1), v(1)))}, api.Clause{no(f(3, v(1), f(2, tower(20, v(1)))), f(0))}, inner, api.ErrState},
		{api.Clause{yes(tower(60, f(0)), tower(60, f(0)))}, api.Clause{no(f(3, v(1), f(2, v(1))), f(0))}, inner, api.ErrState},
		{api.Clause{yes(tower(60, f(0)), f(0))}, api.Clause{no(f(3, v(1), f(2, v(1))), f(0))}, inner, api.ErrMany},
		{api.Clause{yes(f(2, v(1)), tower(119, v(1)))}, api.Clause{no(f(3, v(1), f(2, v(1))), twice(twice(v(1))))}, inner, api.ErrState},
		{api.Clause{yes(f(3, f(2, v(1)), f(0)), tower(119, v(1)))}, api.Clause{no(f(3, v(1), f(0)), f(4, v(1), v(1), v(1)))}, put, api.ErrState},
		{api.Clause{yes(f(3, f(2, v(1)), f(0)), tower(119, v(1)))}, api.Clause{no(f(3, f(2, f(0)), f(0)), f(4, f(0), f(0), f(0)))}, put, api.ErrState},
		{api.Clause{yes(f(3, f(2, v(1)), f(0)), tower(119, v(1)))}, api.Clause{no(f(3, f(2, f(2, f(0))), f(0)), f(4, f(0), f(0), f(0)))}, put, api.ErrMany},
		{api.Clause{yes(f(2, v(1)), f(3, f(0), f(0))), yes(f(2, tower(70, f(0))), f(0)), yes(twice(v(1)), f(0))}, nil, factor, api.ErrState},
		{api.Clause{yes(f(2, v(1)), f(0)), yes(f(2, tower(70, f(0))), f(0)), yes(twice(v(1)), f(0))}, nil, factor, api.ErrMany},
		{api.Clause{yes(f(2, v(1)), f(0)), yes(twice(v(1)), f(0))}, api.Clause{no(f(2, tower(70, f(0))), f(3, f(0), f(0)))}, put, api.ErrState},
		{api.Clause{yes(f(2, v(1)), f(0)), yes(twice(v(1)), f(0))}, api.Clause{no(f(2, tower(70, f(0))), f(0))}, put, api.ErrMany},

		// What has another one put at its place.
		{api.Clause{yes(twice(v(1)), tower(39, v(1)))}, api.Clause{no(tower(80, twice(v(1))), f(0))}, deep, api.OK},
		{api.Clause{yes(twice(v(1)), tower(40, v(1)))}, api.Clause{no(tower(80, twice(v(1))), f(0))}, deep, api.ErrMany},
	} {
		d, e := Infer(small(), []api.Clause{c.left, c.right}, c.i)
		if e != c.want || e != api.OK && len(d) != 0 {
			t.Errorf("%d: %s %d, not %d", i, write(d), e, c.want)
		}
	}
}

// some literals: one, and behind it others, all of them yes, no two of which are the same.
func some(n int, first api.Literal) api.Clause {
	c := api.Clause{first}
	for k := range n - 1 {
		c = append(c, yes(f(0), tower(k, v(2))))
	}
	return c
}

func TestH2TooManyLiterals(t *testing.T) {
	by, rises := yes(f(2, v(1)), f(0)), yes(f(2, v(1)), f(3, f(0), f(0)))
	into, up := no(f(2, f(1)), f(1)), no(f(2, f(1)), f(3, f(1), f(1)))
	for i, c := range []struct {
		left, right api.Clause
		want        api.Errno
	}{
		{some(1, by), some(8, into), api.OK},
		{some(8, by), some(1, into), api.OK},
		{some(5, by), some(4, into), api.OK},
		{some(5, by), some(5, into), api.ErrMany},
		{some(2, by), some(8, into), api.ErrMany},
		{some(8, by), some(2, into), api.ErrMany},
		{some(8, by), some(8, into), api.ErrMany},
		// Behind all that is not so.
		{some(8, rises), some(8, into), api.ErrState},
		{some(8, by), some(8, up), api.ErrState},
		{some(8, no(f(0), f(0))), some(8, into), api.ErrState},
	} {
		firstPut(t, i, []api.Clause{c.left, c.right}, c.want)
	}
	// Of one clause there are never too many.
	for i, c := range []struct {
		c    api.Clause
		i    api.Inference
		want int
	}{
		{some(8, no(f(0), f(0))), api.Inference{Kind: api.InferSame}, 7},
		{append(some(7, by), yes(f(2, v(3)), f(1))), api.Inference{Kind: api.InferFactor, RightAt: 7}, 8},
	} {
		if d, e := Infer(small(), []api.Clause{c.c}, c.i); e != api.OK || len(d) != c.want {
			t.Errorf("%d: %s %d", i, write(d), e)
		}
	}
}

func TestH2CountsWhatIsTidied(t *testing.T) {
	seven := "f0 = f1 | f0 = f2(f0) | f0 = f2(f1) | f1 = f2(f0) | f1 = f2(f1) | f2(f0) = f2(f1) | f0 = f3(f0,f0)"
	six := strings.TrimPrefix(seven, "f0 = f1 | ")
	eight := "f1 = f3(f0,f0)"
	for i, c := range []struct {
		left, right, want string // what stands behind the literals that are taken, and what comes; nothing, if it is too many
	}{
		{"f0 = f1", seven, "f0 = f1 | f0 != f1 | " + six},
		{"f1 = f0", seven, "f1 = f0 | f0 != f1 | " + six},
		{"f0 != f1", seven, "f0 != f1 | " + seven},
		{"f2(X3) != f2(X3)", seven, "f0 != f1 | " + seven},
		// So they are once bindings are applied.
		{"X1 = f0", seven, "f1 = f0 | f0 != f1 | " + six},
		{"X1 != f1", seven, "f0 != f1 | " + seven},
		{"f2(f1) != f2(X1)", seven, "f0 != f1 | " + seven},
		// Variables are numbered behind it.
		{"X9 != X9 | X7 = X1", six, "X1 = f1 | f0 != f1 | " + six},
		{"X9 != X9 | X9 = X7 | f0 != X1", six, "X1 = X2 | f0 != f1 | " + six},
		// As many as there can be.
		{seven, seven, seven + " | f0 != f1"},
		{seven, "f0 = f1 | " + six, seven + " | f0 != f1"},
		{seven, "f3(f0,f0) = f0 | " + six, seven + " | f0 != f1"},
		{seven, six + " | " + eight, ""},
		{seven, strings.Repeat("X1 != X1 | ", 6) + "f3(X2,X3) != f3(X2,X3)", seven + " | f0 != f1"},

		// Nine stay nine.
		{eight, seven, ""},
		{"f0 = f0", seven, ""},
		{"f0 != f2(f0)", seven, ""},
		{"X1 = f1", seven, ""},
		{"X2 = f0", "X1 = f0 | " + six, ""},
		{"X2 != X3", seven, ""},
		{"f2(X1) != f2(X2)", seven, ""},
	} {
		l := parse("f2(X1) = f0 | "+c.left, "f2(f1) != f1 | "+c.right)
		want := api.OK
		if c.want == "" {
			want = api.ErrMany
		}
		comesTo(t, l, api.Inference{Kind: api.InferPut, Right: 1}, c.want, want)
		firstPut(t, i, l, want)
	}
	// The literal in which r is put may be one that is not needed, and all may be so.
	comesTo(t, parse("f2(X1) = f0 | "+eight, "f2(f1) != f0 | "+seven), api.Inference{Kind: api.InferPut, Right: 1}, eight+" | "+seven, api.OK)
	none := strings.Repeat(" | f0 != f0", 7)
	comesTo(t, parse("f2(X1) = f0"+none, "f2(f1) != f0"+none), api.Inference{Kind: api.InferPut, Right: 1}, "$false", api.OK)
	// A term of too many parts is told of, though its literal is not needed.
	twice := f(3, v(1), v(1))
	great := api.Clause{yes(f(2, v(1)), f(0)), no(twice, twice)}
	firstPut(t, 58, []api.Clause{great, append(api.Clause{no(tower(59, f(0)), f(1))}, parse(seven)[0]...)}, api.OK)
	firstPut(t, 59, []api.Clause{great, append(api.Clause{no(tower(60, f(0)), f(1))}, parse(seven)[0]...)}, api.ErrMany)
}

// firstPut: InferPut of the first literals of two clauses, nothing turned and Place none, has this error, and All has it or not.
func firstPut(t *testing.T, n int, l []api.Clause, want api.Errno) {
	t.Helper()
	d, e := Infer(small(), l, api.Inference{Kind: api.InferPut, Right: 1})
	if e != want || e != api.OK && len(d) != 0 {
		t.Errorf("%d: %s %d, not %d", n, write(d), e, want)
	}
	all, h := All(small(), l, 0, 1)
	there := slices.ContainsFunc(all, func(i api.Inference) bool {
		return i.LeftAt == 0 && i.RightAt == 0 && !i.LeftTurned && !i.RightTurned && len(i.Place) == 0
	})
	if h != api.OK || there != (want == api.OK) {
		t.Errorf("%d: All has it: %v, %d", n, there, h)
	}
}
