package rewrite

import (
	"slices"
	"testing"

	"superpose/api"
	"superpose/order"
	"superpose/subst"
	"superpose/term"
	"superpose/text"
)

// small: two things, a function of one, one of two, one of three; and greater ones of one.
func small() api.Signature { return api.Signature{Arity: []int{0, 0, 1, 2, 3, 1, 1}} }

func v(n int) api.Term { return api.Term{Var: n} }

func f(n int, args ...api.Term) api.Term { return api.Term{Fn: n, Args: args} }

// parse a term that is the test's own.
func parse(s string) api.Term {
	x, e := text.ParseTerm(small(), s)
	if e != api.OK {
		panic(s)
	}
	return x
}

func write(x api.Term) string {
	s, e := text.Term(small(), x)
	if e != api.OK {
		return "no term"
	}
	return s
}

// rules of texts, two for each.
func rules(s ...string) []api.Rule {
	var l []api.Rule
	for i := 0; i < len(s); i += 2 {
		l = append(l, api.Rule{From: parse(s[i]), To: parse(s[i+1])})
	}
	return l
}

// tower: n functions of one argument on a term.
func tower(fn, n int, x api.Term) api.Term {
	for range n {
		x = f(fn, x)
	}
	return x
}

// holder: a term that holds itself.
func holder() api.Term {
	args := make([]api.Term, 2)
	args[0], args[1] = f(0), f(3)
	args[1].Args = args
	return args[1]
}

func empty(t api.Term) bool { return t.Var == 0 && t.Fn == 0 && len(t.Args) == 0 }

func TestE1CheckByHand(t *testing.T) {
	for i, c := range []struct {
		l    []api.Rule
		want api.Errno
	}{
		{nil, api.OK},
		{[]api.Rule{}, api.OK},
		{rules("f1", "f0"), api.OK},
		{rules("f2(X1)", "X1"), api.OK},
		{rules("f3(X1,X2)", "f2(X1)", "f2(f0)", "f1"), api.OK},
		{rules("f3(f3(X1,X2),X3)", "f3(X1,f3(X2,X3))"), api.OK},
		{slices.Repeat(rules("f1", "f0"), api.MaxRules), api.OK},
		{[]api.Rule{{From: tower(2, 119, v(1)), To: tower(2, 118, v(1))}}, api.OK},

		// Not greater: the same, less, neither.
		{rules("f2(X1)", "f2(X1)"), api.ErrState},
		{rules("f0", "f0"), api.ErrState},
		{rules("f0", "f1"), api.ErrState},
		{rules("X1", "X1"), api.ErrState},
		{rules("X1", "f0"), api.ErrState},
		{rules("f2(X1)", "X2"), api.ErrState},
		{rules("f2(X1)", "f2(X2)"), api.ErrState},
		{rules("f3(X1,X2)", "f3(X2,X1)"), api.ErrState},
		{rules("f3(X1,f3(X2,X3))", "f3(f3(X1,X2),X3)"), api.ErrState},
		{rules("f1", "f0", "f2(X1)", "X1", "f0", "f0"), api.ErrState},

		// Too many, ahead of what is wrong in them.
		{slices.Repeat(rules("f1", "f0"), api.MaxRules+1), api.ErrMany},
		{make([]api.Rule, api.MaxRules), api.ErrState},
		{make([]api.Rule, api.MaxRules+1), api.ErrMany},
		{slices.Repeat([]api.Rule{{From: f(9), To: v(-1)}}, api.MaxRules+1), api.ErrMany},

		// Of a rule: From, To, then whether it is greater.
		{[]api.Rule{{From: f(9), To: v(1001)}}, api.ErrNone},
		{[]api.Rule{{From: v(1001), To: f(9)}}, api.ErrRange},
		{[]api.Rule{{From: f(2), To: f(9)}}, api.ErrForm},
		{[]api.Rule{{From: f(0), To: f(9)}}, api.ErrNone},
		{[]api.Rule{{From: f(1), To: f(0, v(1))}}, api.ErrForm},
		{[]api.Rule{{From: v(1), To: v(-1)}}, api.ErrRange},
		{[]api.Rule{{From: tower(2, 120, v(1)), To: v(1)}}, api.ErrMany},
		{[]api.Rule{{From: v(1), To: tower(2, 120, v(1))}}, api.ErrMany},
		{[]api.Rule{{From: holder(), To: f(9)}}, api.ErrMany},

		// Rule by rule: all of the first one ahead of the second one.
		{append(rules("f0", "f1"), api.Rule{From: f(9)}), api.ErrState},
		{append([]api.Rule{{From: f(9)}}, rules("f0", "f1")...), api.ErrNone},
		{append(rules("f1", "f0"), api.Rule{From: f(2), To: f(0)}), api.ErrForm},
		{[]api.Rule{{From: f(1), To: v(1001)}, {From: f(9)}}, api.ErrRange},
	} {
		if e := Check(small(), c.l); e != c.want {
			t.Errorf("%d: %d, not %d", i, e, c.want)
		}
		for _, x := range []api.Term{f(0), f(9), v(1001), f(2), holder()} {
			if c.want != api.OK {
				refused(t, small(), c.l, x, c.want)
			}
		}
	}
}

// refused: Step and Normal say why, and nothing else.
func refused(t *testing.T, g api.Signature, l []api.Rule, x api.Term, want api.Errno) {
	t.Helper()
	y, ok, e := Step(g, l, x)
	z, n, h := Normal(g, l, x)
	if e != want || h != want || ok || n != 0 || !empty(y) || !empty(z) {
		t.Errorf("%v %v %d; %v %d %d, not %d", y, ok, e, z, n, h, want)
	}
}

func TestE1SignatureFirst(t *testing.T) {
	for _, c := range []struct {
		g    api.Signature
		want api.Errno
	}{
		{api.Signature{Arity: []int{0, 4}}, api.ErrRange},
		{api.Signature{Arity: make([]int, api.MaxFunctions+1)}, api.ErrMany},
	} {
		for _, l := range [][]api.Rule{nil, rules("f1", "f0"), rules("f0", "f1"), make([]api.Rule, 30), {{From: f(9)}}} {
			if e := Check(c.g, l); e != c.want {
				t.Errorf("%v: %d, not %d", c.g, e, c.want)
			}
			refused(t, c.g, l, f(9), c.want)
			refused(t, c.g, l, f(0), c.want)
		}
	}
}

func TestE1ThenTheTerm(t *testing.T) {
	for _, l := range [][]api.Rule{nil, rules("f1", "f0"), rules("f2(X1)", "X1")} {
		refused(t, small(), l, f(9), api.ErrNone)
		refused(t, small(), l, v(1001), api.ErrRange)
		refused(t, small(), l, f(2), api.ErrForm)
		refused(t, small(), l, f(3, f(2, f(0)), f(1, f(1))), api.ErrForm)
		refused(t, small(), l, tower(2, 120, f(1)), api.ErrMany)
		refused(t, small(), l, holder(), api.ErrMany)
	}
}

func TestE2StepByHand(t *testing.T) {
	const none = "none"
	for _, c := range []struct {
		l       []api.Rule
		x, want string
	}{
		{nil, "f3(X1,f0)", none},
		{rules("f1", "f0"), "f1", "f0"},
		{rules("f1", "f0"), "f0", none},
		{rules("f1", "f0"), "X1", none},
		{rules("f2(X1)", "X1"), "X1", none},
		{rules("f2(X1)", "X1"), "f5(f3(X1,X1))", none},

		// The document's example 5, step by step.
		{rules("f2(X1)", "X1"), "f2(f2(f0))", "f2(f0)"},
		{rules("f2(X1)", "X1"), "f2(f0)", "f0"},

		// Arguments ahead of what has them, from the left.
		{rules("f2(X1)", "f1"), "f2(f2(f0))", "f2(f1)"},
		{rules("f2(X1)", "X1"), "f3(f2(f0),f2(f1))", "f3(f0,f2(f1))"},
		{rules("f2(X1)", "X1"), "f3(f0,f2(f1))", "f3(f0,f1)"},
		{rules("f2(X1)", "X1", "f3(X1,X2)", "X2"), "f3(f0,f3(f2(f0),f1))", "f3(f0,f3(f0,f1))"},
		{rules("f3(X1,X2)", "X2", "f2(X1)", "X1"), "f3(f3(f0,f2(f1)),f2(X1))", "f3(f3(f0,f1),f2(X1))"},
		{rules("f3(X1,X2)", "X1"), "f3(f3(f0,f1),f3(X1,X2))", "f3(f0,f3(X1,X2))"},
		{rules("f4(X1,X2,X3)", "X2"), "f4(f2(f4(X1,X2,X3)),f4(f0,f1,f0),f0)", "f4(f2(X2),f4(f0,f1,f0),f0)"},
		{rules("f1", "f0"), "f4(f0,f2(f2(f1)),f1)", "f4(f0,f2(f2(f0)),f1)"},

		// A place counts ahead of a rule; at one place the first rule.
		{rules("f3(X1,X2)", "f0", "f1", "f0"), "f3(f0,f1)", "f3(f0,f0)"},
		{rules("f2(X1)", "f0", "f2(f0)", "f1"), "f2(f0)", "f0"},
		{rules("f2(f0)", "f1", "f2(X1)", "f0"), "f2(f0)", "f1"},
		{rules("f2(f0)", "f1", "f2(X1)", "f0"), "f2(f1)", "f0"},
		{rules("f3(X1,X1)", "f1", "f3(X1,X2)", "X1"), "f3(X1,X2)", "X1"},
		{rules("f3(X1,X1)", "f1", "f3(X1,X2)", "X1"), "f3(X2,X2)", "f1"},

		// From matches the place, not the other way round.
		{rules("f2(f0)", "f0"), "f2(X1)", none},
		{rules("f3(X1,X1)", "X1"), "f3(X1,X2)", none},
		{rules("f3(X1,X1)", "X1"), "f3(f2(X2),f2(X2))", "f2(X2)"},
		{rules("f3(X1,X1)", "X1"), "f3(f2(X2),f2(X1))", none},

		// The term's variables are others than the rule's, also where their numbers are the same.
		{rules("f3(X1,X2)", "f2(X2)"), "f3(X2,X1)", "f2(X1)"},
		{rules("f3(X1,X2)", "f2(X2)"), "f3(X1,f2(X1))", "f2(f2(X1))"},
		{rules("f3(f3(X1,X2),X3)", "f3(X1,f3(X2,X3))"), "f3(f3(X3,X1),X2)", "f3(X3,f3(X1,X2))"},
		{rules("f3(X1,f2(X2))", "f2(f3(X1,X2))"), "f3(X9,f2(f2(X1)))", "f2(f3(X9,f2(X1)))"},
		{rules("f4(X1,X2,X3)", "f3(X3,f3(X1,X1))"), "f5(f4(f0,X7,f1))", "f5(f3(f1,f3(f0,f0)))"},
	} {
		want, is := c.want, c.want != none
		if !is {
			want = c.x
		}
		if y, ok, e := Step(small(), c.l, parse(c.x)); e != api.OK || ok != is || write(y) != want {
			t.Errorf("%v on %s: %s %v %d, not %s", c.l, c.x, write(y), ok, e, c.want)
		}
	}
}

func TestE2NormalByHand(t *testing.T) {
	plus := rules("f3(X1,f0)", "X1", "f3(X1,f2(X2))", "f2(f3(X1,X2))")
	down := rules("f6(X1)", "f5(X1)", "f5(X1)", "f2(X1)", "f2(X1)", "X1")
	for _, c := range []struct {
		l       []api.Rule
		x, want string
		steps   int
	}{
		{nil, "f3(X1,f0)", "f3(X1,f0)", 0},
		{rules("f2(X1)", "X1"), "f2(f2(f0))", "f0", 2},
		{rules("f2(X1)", "X1"), "f3(X1,f1)", "f3(X1,f1)", 0},
		{rules("f1", "f0"), "f4(f1,f2(f1),f0)", "f4(f0,f2(f0),f0)", 2},
		{plus, "f3(f2(f0),f2(f2(f0)))", "f2(f2(f2(f0)))", 3},
		{plus, "f3(f3(f0,f0),f2(f3(f1,f0)))", "f2(f3(f0,f1))", 3},
		{plus, "f3(X1,f2(X1))", "f2(f3(X1,X1))", 1},
		{down, "f6(f5(f2(X4)))", "X4", 6},
		{rules("f4(X1,X2,X3)", "f3(X1,X1)", "f1", "f0"), "f4(f1,f1,f1)", "f3(f0,f0)", 4},
		{rules("f2(X1)", "f0", "f2(f0)", "f1"), "f2(f2(f1))", "f0", 2},
	} {
		if y, n, e := Normal(small(), c.l, parse(c.x)); e != api.OK || n != c.steps || write(y) != c.want {
			t.Errorf("%v on %s: %s %d %d, not %s %d", c.l, c.x, write(y), n, e, c.want, c.steps)
		}
	}
}

func TestE2StepOfTooMuch(t *testing.T) {
	double := rules("f4(X1,X2,X3)", "f3(f3(X1,X1),f3(X1,X2))")
	for i, c := range []struct {
		l    []api.Rule
		x    api.Term
		size int // 0: too much
	}{
		// As of Apply.
		{double, f(4, tower(2, 37, f(0)), f(0), f(0)), 118},
		{double, f(4, tower(2, 38, f(0)), f(0), f(0)), 0},
		{double, f(4, tower(2, 37, f(0)), f(2, f(2, f(0))), f(0)), 120},
		{double, f(4, tower(2, 37, f(0)), f(2, f(2, f(2, f(0)))), f(0)), 0},
		{double, f(4, tower(2, 116, f(0)), f(0), f(0)), 0},

		// As of Put.
		{double, f(3, tower(2, 51, f(0)), f(4, tower(2, 20, f(0)), f(0), f(0))), 120},
		{double, f(3, tower(2, 52, f(0)), f(4, tower(2, 20, f(0)), f(0), f(0))), 0},
		{double, tower(2, 110, f(4, f(0), f(0), f(0))), 117},
		{double, tower(2, 113, f(4, f(0), f(0), f(0))), 120},
		{double, tower(2, 114, f(4, f(0), f(0), f(0))), 0},

		// The first place and the first rule count, also where another one would do.
		{double, f(3, f(4, tower(2, 40, f(0)), f(0), f(0)), f(4, f(0), f(0), f(0))), 0},
		{double, f(3, f(4, f(0), f(0), f(0)), f(4, tower(2, 40, f(0)), f(0), f(0))), 1 + 7 + 44},
		{append(slices.Clone(double), rules("f4(X1,X2,X3)", "X1")...), f(4, tower(2, 40, f(0)), f(0), f(0)), 0},
		{append(rules("f4(X1,X2,X3)", "X1"), double...), f(4, tower(2, 40, f(0)), f(0), f(0)), 41},
	} {
		y, ok, e := Step(small(), c.l, c.x)
		if c.size == 0 {
			if e != api.ErrMany || ok || !empty(y) {
				t.Errorf("%d: %v %v %d", i, y, ok, e)
			}
			refused(t, small(), c.l, c.x, api.ErrMany)
			continue
		}
		if n, _ := term.Size(small(), y); e != api.OK || !ok || n != c.size {
			t.Errorf("%d: size %d %v %d, not %d", i, n, ok, e, c.size)
		}
	}
}

func TestE2NormalOfTooMuch(t *testing.T) {
	down := rules("f6(X1)", "f5(X1)", "f5(X1)", "f2(X1)", "f2(X1)", "X1")
	double := rules("f5(X1)", "f3(X1,X1)")
	for i, c := range []struct {
		l     []api.Rule
		x     api.Term
		steps int // 0: too much
	}{
		{rules("f2(X1)", "X1"), tower(2, 119, f(0)), 119},
		{down, tower(6, 99, tower(5, 1, f(0))), 299},
		{down, tower(6, 100, f(0)), api.MaxSteps},
		{down, tower(6, 100, f(2, f(0))), 0},
		{down, f(2, tower(6, 100, f(0))), 0},
		{down, tower(6, 119, f(0)), 0},

		// It grows by steps that are right till one is too much.
		{double, tower(5, 5, f(0)), 5},
		{double, tower(5, 6, f(0)), 0},
		{double, tower(5, 50, f(0)), 0},
	} {
		if c.steps == 0 {
			if y, n, e := Normal(small(), c.l, c.x); e != api.ErrMany || n != 0 || !empty(y) {
				t.Errorf("%d: %v %d %d", i, y, n, e)
			}
			continue
		}
		if _, n, e := Normal(small(), c.l, c.x); e != api.OK || n != c.steps {
			t.Errorf("%d: %d %d, not %d", i, n, e, c.steps)
		}
	}
}

// places of a term, arguments from the left ahead of what has them.
func places(x api.Term) [][]int {
	var l [][]int
	for i, a := range x.Args {
		for _, p := range places(a) {
			l = append(l, append([]int{i}, p...))
		}
	}
	return append(l, nil)
}

// plain: a step, as E2's words say it.
func plain(l []api.Rule, x api.Term) (api.Term, bool) {
	for _, p := range places(x) {
		for _, r := range l {
			there, _ := term.At(small(), x, p)
			if b, ok, _ := subst.Match(small(), r.From, there); ok {
				to, _ := subst.Apply(small(), b, r.To)
				y, _ := term.Put(small(), x, p, to)
				return y, true
			}
		}
	}
	return x, false
}

// some terms; the same each time.
func some() []api.Term {
	first := []api.Term{v(1), v(2), f(0), f(1), f(2, v(2))}
	terms := slices.Clone(first)
	for i, a := range first {
		terms = append(terms, f(2, a), f(5, f(2, a)), f(6, f(5, a)))
		for k, b := range first {
			terms = append(terms, f(3, a, b), f(3, f(2, b), f(3, f(5, a), b)))
			if (i+k)%2 == 0 {
				terms = append(terms, f(4, f(3, a, b), b, f(6, a)), f(3, f(4, a, a, b), f(4, b, a, f(2, a))))
			}
		}
	}
	return terms
}

func someRules() [][]api.Rule {
	return [][]api.Rule{
		nil,
		rules("f2(X1)", "X1"),
		rules("f1", "f0", "f2(f0)", "f0"),
		rules("f3(X1,X1)", "X1", "f3(X1,X2)", "f2(X2)"),
		rules("f4(X1,X2,X3)", "f3(X3,f3(X2,X1))", "f3(X2,X1)", "f2(X1)", "f5(X1)", "f2(f2(X1))"),
		rules("f6(X1)", "f5(f3(X1,X1))", "f5(X1)", "f2(f3(f1,X1))", "f3(f1,X1)", "X1"),
		rules("f3(f3(X1,X2),X3)", "f3(X1,f3(X2,X3))", "f4(X1,X1,X2)", "f3(X2,X1)"),
		rules("f3(X1,f2(X2))", "f2(f3(X1,X2))", "f3(X1,f0)", "X1", "f5(f2(X1))", "f2(f5(X1))"),
	}
}

func TestE2SaysWhatTheWordsSay(t *testing.T) {
	for i, l := range someRules() {
		for _, x := range some() {
			want, is := plain(l, x)
			if y, ok, e := Step(small(), l, x); e != api.OK || ok != is || write(y) != write(want) {
				t.Errorf("%d on %s: %s %v %d, not %s %v", i, write(x), write(y), ok, e, write(want), is)
			}
		}
	}
}

func TestE3EachStepMakesALesserTerm(t *testing.T) {
	for i, l := range someRules() {
		for _, x := range some() {
			steps := 0
			at, ok := x, true
			for ok {
				next, is, e := Step(small(), l, at)
				if n, _ := order.Compare(small(), at, next); e != api.OK || is != (n == 1) {
					t.Fatalf("%d on %s: %s %v %d", i, write(at), write(next), is, e)
				}
				at, ok = next, is
				if ok {
					steps++
				}
			}
			if y, n, e := Normal(small(), l, x); e != api.OK || n != steps || write(y) != write(at) {
				t.Errorf("%d on %s: %s %d %d, not %s %d", i, write(x), write(y), n, e, write(at), steps)
			}
		}
	}
}

func TestE3WhatIsNormalStays(t *testing.T) {
	for i, l := range someRules() {
		for _, x := range some() {
			y, _, _ := Normal(small(), l, x)
			z, n, e := Normal(small(), l, y)
			w, ok, h := Step(small(), l, y)
			if e != api.OK || h != api.OK || n != 0 || ok || write(z) != write(y) || write(w) != write(y) {
				t.Errorf("%d on %s: %s, then %s %d, %s %v", i, write(x), write(y), write(z), n, write(w), ok)
			}
		}
	}
}
