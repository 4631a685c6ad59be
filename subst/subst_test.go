package subst

import (
	"slices"
	"testing"

	"superpose/api"
	"superpose/term"
	"superpose/text"
)

// small: two things, a function of one, one of two, one of three.
func small() api.Signature { return api.Signature{Arity: []int{0, 0, 1, 2, 3}} }

func v(n int) api.Term { return api.Term{Var: n} }

func f(n int, args ...api.Term) api.Term { return api.Term{Fn: n, Args: args} }

// parse a term that is the test's own.
func parse(s string) api.Term {
	x, e := text.ParseTerm(small(), s)
	if e != api.OK {
		panic(s)
	}
	return x
}

func write(x api.Term) string {
	s, e := text.Term(small(), x)
	if e != api.OK {
		return "no term"
	}
	return s
}

// told: bindings as one text.
func told(b []api.Binding) string {
	s := ""
	for _, x := range b {
		s += write(v(x.Var)) + ":" + write(x.To) + " "
	}
	return s
}

// tower: n functions of one argument on a term.
func tower(n int, x api.Term) api.Term {
	for range n {
		x = f(2, x)
	}
	return x
}

// comb: n functions of two arguments, all ends the same.
func comb(n int, x api.Term) api.Term {
	c := x
	for range n {
		c = f(3, c, x)
	}
	return c
}

// holder: a term that holds itself.
func holder() api.Term {
	args := make([]api.Term, 2)
	args[0], args[1] = f(0), f(3)
	args[1].Args = args
	return args[1]
}

func one(n int, to api.Term) []api.Binding { return []api.Binding{{Var: n, To: to}} }

func TestC1Apply(t *testing.T) {
	for _, c := range []struct {
		b       []api.Binding
		x, want string
	}{
		{nil, "f3(X1,f2(f0))", "f3(X1,f2(f0))"},
		{[]api.Binding{}, "X1", "X1"},
		{one(1, f(0)), "X1", "f0"},
		{one(1, f(0)), "f0", "f0"},
		{one(1, f(0)), "f3(X1,f4(X2,X1,f2(X1)))", "f3(f0,f4(X2,f0,f2(f0)))"},
		{one(1000, f(0)), "f3(X1000,X1)", "f3(f0,X1)"},
		{one(1, v(1)), "f2(X1)", "f2(X1)"},

		// All at once: what was put in stays as it is.
		{one(1, f(2, v(1))), "f3(X1,X1)", "f3(f2(X1),f2(X1))"},
		{[]api.Binding{{Var: 1, To: v(2)}, {Var: 2, To: v(1)}}, "f3(X1,X2)", "f3(X2,X1)"},
		{[]api.Binding{{Var: 1, To: v(2)}, {Var: 2, To: f(0)}}, "f3(X1,X2)", "f3(X2,f0)"},
		{[]api.Binding{{Var: 1, To: f(1)}, {Var: 2, To: f(3, v(1), v(2))}}, "f2(X2)", "f2(f3(X1,X2))"},
	} {
		if y, e := Apply(small(), c.b, parse(c.x)); e != api.OK || write(y) != c.want {
			t.Errorf("%s on %s: %s %d, not %s", told(c.b), c.x, write(y), e, c.want)
		}
	}
}

func TestC1Errors(t *testing.T) {
	bad := api.Signature{Arity: []int{0, 4}}
	many := api.Signature{Arity: make([]int, api.MaxFunctions+1)}
	wrong := []api.Binding{{Var: 0, To: f(9)}}
	for i, c := range []struct {
		g    api.Signature
		b    []api.Binding
		x    api.Term
		want api.Errno
	}{
		// The signature ahead of all.
		{bad, nil, v(1), api.ErrRange},
		{many, wrong, f(9), api.ErrMany},
		{many, nil, v(1), api.ErrMany},
		{bad, one(1, f(9)), f(9), api.ErrRange},

		// Of a binding: its variable, that it rises, its term.
		{small(), one(0, f(0)), v(1), api.ErrRange},
		{small(), one(-1, f(9)), v(1), api.ErrRange},
		{small(), one(1001, f(9)), f(9), api.ErrRange},
		{small(), one(1000, f(0)), v(1), api.OK},
		{small(), one(1, f(9)), v(1001), api.ErrNone},
		{small(), one(1, f(2)), f(9), api.ErrForm},
		{small(), one(1, v(1001)), f(9), api.ErrRange},
		{small(), one(1, tower(120, v(1))), f(9), api.ErrMany},
		{small(), one(1, holder()), f(9), api.ErrMany},
		{small(), []api.Binding{{Var: 2, To: f(0)}, {Var: 2, To: f(9)}}, f(9), api.ErrState},
		{small(), []api.Binding{{Var: 2, To: f(0)}, {Var: 1, To: f(9)}}, f(9), api.ErrState},
		{small(), []api.Binding{{Var: 2, To: f(0)}, {Var: 0, To: f(9)}}, f(9), api.ErrRange},
		{small(), []api.Binding{{Var: 2, To: f(0)}, {Var: -7, To: f(9)}}, f(9), api.ErrRange},
		{small(), []api.Binding{{Var: 2, To: f(0)}, {Var: 3, To: f(2)}}, f(9), api.ErrForm},
		{small(), []api.Binding{{Var: 2, To: f(0)}, {Var: 3, To: f(0)}, {Var: 2, To: f(0)}}, v(1), api.ErrState},

		// Binding by binding: all of the first one ahead of the second one.
		{small(), []api.Binding{{Var: 2, To: f(9)}, {Var: 1, To: f(0)}}, v(1), api.ErrNone},
		{small(), []api.Binding{{Var: 2, To: f(2)}, {Var: 0, To: f(0)}}, v(1), api.ErrForm},
		{small(), []api.Binding{{Var: 2, To: f(0)}, {Var: 1, To: f(0)}, {Var: 0, To: f(0)}}, v(1), api.ErrState},

		// Then the term.
		{small(), nil, f(9), api.ErrNone},
		{small(), one(1, f(0)), f(2), api.ErrForm},
		{small(), one(1, f(0)), v(1001), api.ErrRange},
		{small(), one(1, f(0)), tower(120, v(1)), api.ErrMany},
		{small(), one(1, f(0)), holder(), api.ErrMany},
	} {
		y, e := Apply(c.g, c.b, c.x)
		if e != c.want || e != api.OK && (y.Var != 0 || y.Fn != 0 || len(y.Args) != 0) {
			t.Errorf("%d: %v %d, not %d", i, y, e, c.want)
		}
	}
}

func TestC1WhatComesMayBeTooMuch(t *testing.T) {
	for i, c := range []struct {
		to, x api.Term
		want  api.Errno
	}{
		{tower(119, v(1)), v(1), api.OK},
		{tower(118, v(1)), f(2, v(1)), api.OK},
		{tower(119, v(1)), f(2, v(1)), api.ErrMany},
		{tower(119, v(1)), f(2, v(2)), api.OK},
		{tower(58, v(1)), f(3, v(1), v(1)), api.OK},
		{tower(59, v(1)), f(3, v(1), v(1)), api.ErrMany},
		{tower(119, v(1)), comb(59, v(1)), api.ErrMany},
		{f(2, v(1)), comb(39, v(1)), api.OK},
		{f(2, v(1)), comb(40, v(1)), api.ErrMany},
	} {
		y, e := Apply(small(), one(1, c.to), c.x)
		if e != c.want || e != api.OK && len(y.Args) != 0 {
			t.Errorf("%d: %d, not %d", i, e, c.want)
		}
	}
}

func TestC2Match(t *testing.T) {
	const none = "none"
	for _, c := range []struct{ p, x, want string }{
		{"X1", "X1", "X1:X1 "},
		{"X1", "X2", "X1:X2 "},
		{"X2", "f3(X2,f0)", "X2:f3(X2,f0) "},
		{"f0", "f0", ""},
		{"f0", "f1", none},
		{"f0", "X1", none},
		{"f0", "f2(f0)", none},
		{"f1", "f0", none},
		{"f2(f0)", "f0", none},
		{"f2(X1)", "X1", none},
		{"f2(X1)", "f2(X1)", "X1:X1 "},
		{"f2(X1)", "f2(f2(X1))", "X1:f2(X1) "},
		{"f2(X1)", "f3(X1,X1)", none},
		{"f3(X1,X2)", "f2(X1)", none},
		{"f3(X2,X1)", "f3(f0,f1)", "X1:f1 X2:f0 "},
		{"f3(X1,X2)", "f3(X2,X1)", "X1:X2 X2:X1 "},
		{"f3(X1,X1)", "f3(f0,f0)", "X1:f0 "},
		{"f3(X1,X1)", "f3(f0,f1)", none},
		{"f3(X1,X1)", "f3(X2,X1)", none},
		{"f3(X1,X1)", "f3(f2(X3),f2(X3))", "X1:f2(X3) "},
		{"f3(X1,X1)", "f3(f2(X3),f2(X4))", none},
		{"f3(X1,f0)", "f3(f0,X1)", none},
		{"f3(X1,f2(X1))", "f3(f0,f2(f0))", "X1:f0 "},
		{"f3(X1,f2(X1))", "f3(f0,f2(f1))", none},
		{"f4(X9,X3,X5)", "f4(f0,X3,X1)", "X3:X3 X5:X1 X9:f0 "},
		{"f4(X1000,X999,X1)", "f4(f0,f0,f0)", "X1:f0 X999:f0 X1000:f0 "},
		{"f4(f0,X1,X2)", "f4(f1,X1,X2)", none},
		{"f3(f3(X1,X2),X3)", "f3(X3,f3(X2,X1))", none},
		{"f3(f0,f2(X2))", "f3(f0,f2(f2(X7)))", "X2:f2(X7) "},
	} {
		b, ok, e := Match(small(), parse(c.p), parse(c.x))
		if e != api.OK || ok != (c.want != none) || ok && told(b) != c.want || !ok && len(b) != 0 {
			t.Errorf("%s and %s: %s %v %d, not %s", c.p, c.x, told(b), ok, e, c.want)
		}
	}
}

func TestC2Unify(t *testing.T) {
	const none = "none"
	for _, c := range []struct{ a, b, want string }{
		{"X1", "X1", ""},
		{"f0", "f0", ""},
		{"f3(X1,f2(X2))", "f3(X1,f2(X2))", ""},
		{"f0", "f1", none},
		{"f0", "f2(f0)", none},
		{"f2(X1)", "f3(X1,X1)", none},
		{"f3(f0,X1)", "f3(f1,X1)", none},
		{"f3(X1,f0)", "f3(X2,f1)", none},

		// The document's example 3.
		{"f2(X2)", "f2(f0)", "X2:f0 "},

		// Variables that are the same as each other: the least one stands.
		{"X1", "X2", "X2:X1 "},
		{"X2", "X1", "X2:X1 "},
		{"f3(X5,X4)", "f3(X4,X5)", "X5:X4 "},
		{"f3(X1,X2)", "f3(X2,X3)", "X2:X1 X3:X1 "},
		{"f3(X3,X2)", "f3(X2,X1)", "X2:X1 X3:X1 "},
		{"f4(X9,X7,X9)", "f4(X8,X6,X6)", "X7:X6 X8:X6 X9:X6 "},
		{"f3(X1000,X7)", "f3(X999,X999)", "X999:X7 X1000:X7 "},
		{"f4(X1,X3,X1)", "f4(X2,X4,X3)", "X2:X1 X3:X1 X4:X1 "},

		// Variables that are a function: none of them stands.
		{"X1", "f0", "X1:f0 "},
		{"f0", "X1", "X1:f0 "},
		{"f3(X1,X1)", "f3(X2,f0)", "X1:f0 X2:f0 "},
		{"f3(X1,X2)", "f3(X2,f0)", "X1:f0 X2:f0 "},
		{"f4(X2,X1,X1)", "f4(X1,f2(X4),X3)", "X1:f2(X4) X2:f2(X4) X3:f2(X4) "},
		{"f3(X1,X1)", "f3(f0,f1)", none},
		{"f4(X1,X2,X1)", "f4(f0,f1,X2)", none},

		// No variable that is bound stands in what others are bound to.
		{"f3(X1,X2)", "f3(f2(X2),f0)", "X1:f2(f0) X2:f0 "},
		{"f3(X2,X1)", "f3(f0,f2(X2))", "X1:f2(f0) X2:f0 "},
		{"f4(X1,X2,X3)", "f4(f2(X2),f2(X3),f2(X4))", "X1:f2(f2(f2(X4))) X2:f2(f2(X4)) X3:f2(X4) "},
		{"f4(X4,X3,X2)", "f4(f2(X3),f2(X2),f2(X1))", "X2:f2(X1) X3:f2(f2(X1)) X4:f2(f2(f2(X1))) "},
		{"f3(f2(X3),X4)", "f3(X1,X3)", "X1:f2(X3) X4:X3 "},
		{"f3(X1,f3(X2,X2))", "f3(f2(X3),f3(f2(X4),X1))", "X1:f2(X3) X2:f2(X3) X4:X3 "},
		{"f3(f3(X1,X2),X3)", "f3(X3,f3(X2,X1))", "X2:X1 X3:f3(X1,X1) "},
		{"f3(X1,X1)", "f3(f3(X2,f0),f3(f1,X3))", "X1:f3(f1,f0) X2:f1 X3:f0 "},

		// One that would stand in itself.
		{"X1", "f2(X1)", none},
		{"f2(X1)", "X1", none},
		{"X1", "f3(f0,f2(X1))", none},
		{"f3(X1,X2)", "f3(f2(X2),f2(X1))", none},
		{"f3(X3,f2(X3))", "f3(f2(X4),X4)", none},
		{"f4(X1,X2,X3)", "f4(f2(X2),f2(X3),f2(X1))", none},
		{"f3(X1,X1)", "f3(X2,f2(X2))", none},
		{"f3(f2(X1),X1)", "f3(X2,X2)", none},
		{"f4(f2(X1),f2(X2),X1)", "f4(X3,X3,f2(X2))", none},
		{"f4(X1,X2,X1)", "f4(f2(X1),f2(X2),X2)", none},
		{"f3(X1,f3(X2,X1))", "f3(f3(X2,X1),f3(f3(X1,X2),X2))", none},
	} {
		b, ok, e := Unify(small(), parse(c.a), parse(c.b))
		if e != api.OK || ok != (c.want != none) || ok && told(b) != c.want || !ok && len(b) != 0 {
			t.Errorf("%s and %s: %s %v %d, not %s", c.a, c.b, told(b), ok, e, c.want)
		}
		turned, ok2, e2 := Unify(small(), parse(c.b), parse(c.a))
		if told(turned) != told(b) || ok2 != ok || e2 != e {
			t.Errorf("%s and %s: turned %s %v %d", c.a, c.b, told(turned), ok2, e2)
		}
	}
}

func TestC2Errors(t *testing.T) {
	big := tower(120, v(1))
	bad := api.Signature{Arity: []int{0, -1}}
	many := api.Signature{Arity: make([]int, api.MaxFunctions+1)}
	for i, c := range []struct {
		g    api.Signature
		a, b api.Term
		want api.Errno
	}{
		{bad, f(9), big, api.ErrRange},
		{many, f(9), f(9), api.ErrMany},
		{small(), f(9), v(1001), api.ErrNone},
		{small(), v(1001), f(9), api.ErrRange},
		{small(), v(-1), big, api.ErrRange},
		{small(), f(0), f(9), api.ErrNone},
		{small(), f(0), f(2), api.ErrForm},
		{small(), f(2), f(9), api.ErrForm},
		{small(), f(0), v(-1), api.ErrRange},
		{small(), big, f(9), api.ErrMany},
		{small(), f(0), big, api.ErrMany},
		{small(), v(1), holder(), api.ErrMany},
		{small(), holder(), f(9), api.ErrMany},
		{small(), api.Term{Var: 1, Fn: 1}, f(9), api.ErrForm},
		{api.Signature{}, v(1), f(0), api.ErrNone},
	} {
		b, ok, e := Match(c.g, c.a, c.b)
		u, is, h := Unify(c.g, c.a, c.b)
		if e != c.want || h != c.want || ok || is || len(b) != 0 || len(u) != 0 {
			t.Errorf("%d: %v %v %d; %v %v %d, not %d", i, b, ok, e, u, is, h, c.want)
		}
	}
}

// grown: two terms that are the same by bindings of 3, 9, 27 .. ends: X2 is f4(X1,X1,X1), X3 is f4(X2,X2,X2), and so on, n times; and by whatever makes their ends the same.
func grown(n int, end1, end2 api.Term) (a, b api.Term) {
	a, b = end1, end2
	for k := 1; k <= n; k++ {
		a = f(3, v(k+1), a)
		b = f(3, f(4, v(k), v(k), v(k)), b)
	}
	return a, b
}

func TestC2UnifyOfTooMuch(t *testing.T) {
	for i, c := range []struct {
		a, b api.Term
		want api.Errno
		is   bool
	}{
		// What is bound, or the term, of just MaxSize, and of one more.
		{f(3, v(1), v(2)), f(3, v(2), tower(58, v(3))), api.OK, true},
		{f(3, v(1), v(2)), f(3, v(2), tower(59, v(3))), api.ErrMany, false},
		{v(1), tower(119, v(2)), api.OK, true},
		{tower(119, v(2)), v(1), api.OK, true},
		{f(2, v(1)), tower(119, f(0)), api.OK, true},
		{f(3, v(1), tower(59, v(1))), f(3, tower(59, v(2)), v(3)), api.ErrMany, false},
		{f(4, v(1), v(1), v(1)), f(4, tower(38, v(2)), v(3), v(4)), api.OK, true},
		{f(4, v(1), v(1), v(1)), f(4, tower(39, v(2)), v(3), v(4)), api.ErrMany, false},
		{f(4, f(3, v(1), f(0)), v(1), v(1)), f(4, f(3, tower(37, v(2)), f(0)), v(3), v(4)), api.OK, true},

		// Where there are none it is no, however great it would be.
		{f(4, v(1), v(1), f(0)), f(4, tower(100, v(2)), v(3), f(1)), api.OK, false},
		{f(4, v(1), v(1), v(2)), f(4, tower(100, v(2)), v(3), v(1)), api.OK, false},
		{f(4, f(0), v(1), v(1)), f(4, f(1), tower(100, v(2)), v(3)), api.OK, false},
	} {
		for _, turned := range []bool{false, true} {
			a, b := c.a, c.b
			if turned {
				a, b = b, a
			}
			u, ok, e := Unify(small(), a, b)
			if e != c.want || ok != c.is || !ok && len(u) != 0 {
				t.Errorf("%d: %s %v %d, not %v %d", i, told(u), ok, e, c.is, c.want)
			}
		}
	}
}

func TestC2TermsThatGrowByThrees(t *testing.T) {
	for n := 1; n <= 23; n++ {
		a, b := grown(n, v(1), v(1))
		u, ok, e := Unify(small(), a, b)
		if n <= 3 && (!ok || e != api.OK || len(u) != n) || n > 3 && (ok || e != api.ErrMany || len(u) != 0) {
			t.Errorf("%d: %v %v %d", n, len(u), ok, e)
		}
		a, b = grown(n, f(0), f(1))
		if _, ok, e := Unify(small(), a, b); ok || e != api.OK {
			t.Errorf("%d, other things: %v %d", n, ok, e)
		}
		a, b = grown(n, v(1), v(n+1))
		if _, ok, e := Unify(small(), a, b); ok || e != api.OK {
			t.Errorf("%d, in itself: %v %d", n, ok, e)
		}
		if b, ok, e := Match(small(), a, b); e != api.OK || ok && len(b) != n+1 {
			t.Errorf("%d, matched: %v %v %d", n, len(b), ok, e)
		}
	}
}

// twins: two rows of variables that grow by twos, whose greatest ones are made the same last, when all of them are bound.
func twins(n int) (a, b api.Term) {
	a, b = v(101+n), v(201+n)
	for k := n; k > 0; k-- {
		a = f(4, v(101+k), v(201+k), a)
		b = f(4, f(3, v(100+k), v(100+k)), f(3, v(200+k), v(200+k)), b)
	}
	return a, b
}

func TestC2RowsThatGrowByTwos(t *testing.T) {
	for n := 1; n <= 16; n++ {
		a, b := twins(n)
		u, ok, e := Unify(small(), a, b)
		if n <= 3 && (!ok || e != api.OK || len(u) != 2*n+1) || n > 3 && (ok || e != api.ErrMany || len(u) != 0) {
			t.Errorf("%d: %s %v %d", n, told(u), ok, e)
		}
	}
}

// some terms of little depth; the same each time.
func some() []api.Term {
	first := []api.Term{v(1), v(2), v(3), f(0), f(1)}
	terms := slices.Clone(first)
	for i, a := range first {
		terms = append(terms, f(2, a), f(2, f(2, a)))
		for k, b := range first {
			terms = append(terms, f(3, a, b))
			if (i+k)%2 == 0 {
				terms = append(terms, f(3, f(2, a), b), f(3, b, f(3, a, b)), f(3, f(2, a), f(2, b)), f(4, a, b, f(2, a)))
			}
		}
	}
	return terms
}

func applied(t *testing.T, b []api.Binding, x api.Term) string {
	y, e := Apply(small(), b, x)
	if e != api.OK {
		t.Fatalf("%s on %s: %d", told(b), write(x), e)
	}
	return write(y)
}

func TestC3WhatIsMatchedIsTheOtherOne(t *testing.T) {
	for _, p := range some() {
		vars, _ := term.Vars(small(), p)
		for _, x := range some() {
			b, ok, e := Match(small(), p, x)
			if e != api.OK || !ok {
				continue
			}
			if applied(t, b, p) != write(x) || !slices.EqualFunc(b, vars, func(y api.Binding, n int) bool { return y.Var == n }) {
				t.Errorf("%s and %s: %s", write(p), write(x), told(b))
			}
		}
	}
}

func TestC3WhatIsAppliedIsMatched(t *testing.T) {
	put := []api.Term{v(1), v(3), f(0), f(2, v(1)), f(3, v(2), f(1))}
	for _, p := range some() {
		for i, x := range put {
			b := []api.Binding{{Var: 1, To: x}, {Var: 2, To: put[(i*2+1)%5]}, {Var: 3, To: put[(i*3+2)%5]}}
			y, _ := Apply(small(), b, p)
			m, ok, e := Match(small(), p, y)
			if !ok || e != api.OK {
				t.Errorf("%s and %s: %v %d", write(p), write(y), ok, e)
			}
			for _, x := range m {
				if write(x.To) != write(b[x.Var-1].To) {
					t.Errorf("%s and %s: %s", write(p), write(y), told(m))
				}
			}
		}
	}
}

func TestC3WhatIsUnifiedIsTheSame(t *testing.T) {
	for _, a := range some() {
		for _, b := range some() {
			u, ok, e := Unify(small(), a, b)
			if e != api.OK {
				t.Fatalf("%s and %s: %d", write(a), write(b), e)
			}
			if !ok {
				continue
			}
			if applied(t, u, a) != applied(t, u, b) {
				t.Errorf("%s and %s: %s", write(a), write(b), told(u))
			}
			for i, x := range u {
				if i > 0 && x.Var <= u[i-1].Var || applied(t, u, x.To) != write(x.To) {
					t.Errorf("%s and %s: %s", write(a), write(b), told(u))
				}
			}
		}
	}
}

func TestC3WhateverMakesBothTheSameIsMadeOfIt(t *testing.T) {
	put := []api.Term{v(1), v(2), v(4), f(0), f(1), f(2, v(4)), f(2, f(0)), f(2, f(2, f(0)))}
	var ways [][]api.Binding
	for _, x := range put {
		for _, y := range put {
			for _, z := range put {
				ways = append(ways, []api.Binding{{Var: 1, To: x}, {Var: 2, To: y}, {Var: 3, To: z}})
			}
		}
	}
	terms := []string{"X1", "X2", "f0", "f2(X1)", "f2(X3)", "f2(f0)", "f3(X1,X2)", "f3(X2,X3)", "f3(X3,X1)", "f3(f2(X1),X2)", "f3(X2,f2(X3))", "f3(f2(X3),X1)", "f3(f0,X2)", "f4(X1,X2,X3)", "f4(X2,X3,f2(X1))", "f4(f2(X2),X3,X2)"}
	for _, a := range terms {
		for _, b := range terms {
			u, ok, _ := Unify(small(), parse(a), parse(b))
			for _, w := range ways {
				if applied(t, w, parse(a)) != applied(t, w, parse(b)) {
					continue
				}
				if !ok {
					t.Errorf("%s and %s: %s makes them the same", a, b, told(w))
				}
				for _, x := range u {
					if applied(t, w, x.To) != applied(t, w, v(x.Var)) {
						t.Errorf("%s and %s: %s is not made of %s", a, b, told(w), told(u))
					}
				}
			}
		}
	}
}
