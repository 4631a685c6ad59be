package clause

import (
	"slices"
	"strings"
	"testing"

	"superpose/api"
	"superpose/text"
)

// small: two things, a function of one, one of two, one of three.
func small() api.Signature { return api.Signature{Arity: []int{0, 0, 1, 2, 3}} }

func v(n int) api.Term { return api.Term{Var: n} }

func f(n int, args ...api.Term) api.Term { return api.Term{Fn: n, Args: args} }

// parse a clause that is the test's own.
func parse(s string) api.Clause {
	c, e := text.ParseClause(small(), s)
	if e != api.OK {
		panic(s)
	}
	return c
}

func write(c api.Clause) string {
	s, e := text.Clause(small(), c)
	if e != api.OK {
		return "no clause"
	}
	return s
}

// tower: n functions of one argument on a term.
func tower(n int, x api.Term) api.Term {
	for range n {
		x = f(2, x)
	}
	return x
}

// holder: a term that holds itself.
func holder() api.Term {
	args := make([]api.Term, 2)
	args[0], args[1] = f(0), f(3)
	args[1].Args = args
	return args[1]
}

func no(a, b api.Term) api.Clause { return api.Clause{{A: a, B: b}} }

func TestF1CheckByHand(t *testing.T) {
	eight := slices.Repeat(parse("f0 = f1"), api.MaxLiterals)
	nine := slices.Repeat(parse("f0 = f1"), api.MaxLiterals+1)
	for i, c := range []struct {
		l    []api.Clause
		want api.Errno
	}{
		{nil, api.OK},
		{[]api.Clause{}, api.OK},
		{[]api.Clause{nil, {}}, api.OK},
		{[]api.Clause{parse("f2(X1000) = f0 | X1 != f1")}, api.OK},
		{[]api.Clause{eight}, api.OK},
		{[]api.Clause{no(tower(119, v(1)), tower(119, f(0)))}, api.OK},
		{slices.Repeat([]api.Clause{eight}, api.MaxClauses), api.OK},

		// Too many, ahead of what is wrong in them.
		{make([]api.Clause, api.MaxClauses+1), api.ErrMany},
		{slices.Repeat([]api.Clause{no(f(9), f(9))}, api.MaxClauses), api.ErrNone},
		{slices.Repeat([]api.Clause{no(f(9), f(9))}, api.MaxClauses+1), api.ErrMany},
		{[]api.Clause{nine}, api.ErrMany},
		{[]api.Clause{slices.Repeat(no(f(9), f(9)), api.MaxLiterals)}, api.ErrNone},
		{[]api.Clause{slices.Repeat(no(f(9), f(9)), api.MaxLiterals+1)}, api.ErrMany},

		// Of a literal: A, then B.
		{[]api.Clause{no(f(9), v(1001))}, api.ErrNone},
		{[]api.Clause{no(v(1001), f(9))}, api.ErrRange},
		{[]api.Clause{no(f(2), f(9))}, api.ErrForm},
		{[]api.Clause{no(f(0), f(9))}, api.ErrNone},
		{[]api.Clause{no(f(0), v(-1))}, api.ErrRange},
		{[]api.Clause{no(v(1), f(0, f(0)))}, api.ErrForm},
		{[]api.Clause{no(tower(120, v(1)), f(9))}, api.ErrMany},
		{[]api.Clause{no(v(1), tower(120, v(1)))}, api.ErrMany},
		{[]api.Clause{no(holder(), f(9))}, api.ErrMany},
		{[]api.Clause{no(f(1), holder())}, api.ErrMany},
		{[]api.Clause{{{Yes: true, A: f(0), B: f(9)}}}, api.ErrNone},

		// Literal by literal, clause by clause.
		{[]api.Clause{append(no(f(0), f(2)), no(f(9), f(9))...)}, api.ErrForm},
		{[]api.Clause{append(parse("f0 = f1"), no(v(1001), f(9))...)}, api.ErrRange},
		{[]api.Clause{parse("f0 = f1"), no(f(9), f(9))}, api.ErrNone},
		{[]api.Clause{no(f(9), f(9)), nine}, api.ErrNone},
		{[]api.Clause{nine, no(f(9), f(9))}, api.ErrMany},
		{[]api.Clause{no(f(2), f(9)), no(f(9), f(9))}, api.ErrForm},
	} {
		if e := Check(small(), c.l); e != c.want {
			t.Errorf("%d: %d, not %d", i, e, c.want)
		}
		if len(c.l) == 1 && c.want != api.OK {
			refused(t, small(), c.l[0], parse("f0 = f1"), c.want)
			refused(t, small(), c.l[0], no(f(0), f(0, v(-1))), c.want)
		}
		if len(c.l) == 2 {
			if is, e := Subsumes(small(), c.l[0], c.l[1]); e != c.want || e != api.OK && is {
				t.Errorf("%d: Subsumes says %v %d, not %d", i, is, e, c.want)
			}
		}
	}
}

// refused: all but Check say why, and nothing else, of a clause that is wrong; Subsumes also if another one, wrong or not, stands behind it.
func refused(t *testing.T, g api.Signature, c, behind api.Clause, want api.Errno) {
	t.Helper()
	x, e1 := Tidy(g, c)
	a, e2 := Always(g, c)
	s, e3 := Subsumes(g, c, behind)
	u, e4 := Subsumes(g, nil, c)
	if got := []api.Errno{e1, e2, e3, e4}; !slices.Equal(got, slices.Repeat([]api.Errno{want}, 4)) {
		t.Errorf("%v, not %d each", got, want)
	}
	if len(x) != 0 || a || s || u {
		t.Errorf("%v %v %v %v with an error", x, a, s, u)
	}
}

func TestF1SignatureFirst(t *testing.T) {
	for _, c := range []struct {
		g    api.Signature
		want api.Errno
	}{
		{api.Signature{Arity: []int{0, 4}}, api.ErrRange},
		{api.Signature{Arity: make([]int, api.MaxFunctions+1)}, api.ErrMany},
	} {
		for _, x := range []api.Clause{nil, parse("f0 = f0"), no(f(9), f(9)), make(api.Clause, 20)} {
			if e := Check(c.g, []api.Clause{x}); e != c.want {
				t.Errorf("%v: %d, not %d", c.g, e, c.want)
			}
			refused(t, c.g, x, nil, c.want)
		}
		if e := Check(c.g, nil); e != c.want {
			t.Errorf("%v: %d of no clause, not %d", c.g, e, c.want)
		}
		if e := Check(c.g, make([]api.Clause, 100)); e != c.want {
			t.Errorf("%v: %d of too many, not %d", c.g, e, c.want)
		}
	}
}

func TestF2TidyByHand(t *testing.T) {
	for _, c := range []struct{ x, want string }{
		{"$false", "$false"},
		{"f0 = f1", "f0 = f1"},
		{"f1 = f0", "f1 = f0"},

		// The document's example 6.
		{"X7 = f0 | X3 != X3", "X1 = f0"},

		// What is no, with both sides the same, goes; what is yes stays.
		{"f0 != f0", "$false"},
		{"X5 != X5", "$false"},
		{"f2(X5) != f2(X5) | X5 != X4", "X1 != X2"},
		{"f0 != f0 | f1 != f1", "$false"},
		{"f0 = f0", "f0 = f0"},
		{"f2(X3) = f2(X3)", "f2(X1) = f2(X1)"},
		{"f0 != f0 | f0 = f0", "f0 = f0"},
		{"X1 != X2", "X1 != X2"},

		// What one ahead is, too, goes, sides turned or not.
		{"f0 = f1 | f0 = f1", "f0 = f1"},
		{"f0 = f1 | f1 = f0", "f0 = f1"},
		{"f1 = f0 | f0 = f1 | f1 = f0", "f1 = f0"},
		{"f0 != f1 | f1 != f0", "f0 != f1"},
		{"f0 = f1 | f0 != f1", "f0 = f1 | f0 != f1"},
		{"f0 = f1 | f1 != f0", "f0 = f1 | f1 != f0"},
		{"f0 = f0 | f0 = f0", "f0 = f0"},
		{"f0 = f0 | f0 = f1", "f0 = f0 | f0 = f1"},
		{"f2(f0) = f1 | f2(f1) = f0 | f1 = f2(f0) | f0 = f2(f0)", "f2(f0) = f1 | f2(f1) = f0 | f0 = f2(f0)"},
		{"X1 = X2 | X2 = X1", "X1 = X2"},
		{"X1 = X2 | X1 = X3", "X1 = X2 | X1 = X3"},
		{"X1 = f0 | X2 = f0", "X1 = f0 | X2 = f0"},
		{"f3(X1,X2) = f0 | f3(X2,X1) = f0", "f3(X1,X2) = f0 | f3(X2,X1) = f0"},

		// Variables as they first stand, in what is left.
		{"X2 = X1", "X1 = X2"},
		{"X1000 = f0", "X1 = f0"},
		{"f3(X9,X4) = f2(X9) | X2 != X4", "f3(X1,X2) = f2(X1) | X3 != X2"},
		{"f4(f2(X3),X2,f3(X1,X3)) = X5", "f4(f2(X1),X2,f3(X3,X1)) = X4"},
		{"X8 != X8 | X9 = X7 | X7 = X9 | X8 = X9", "X1 = X2 | X3 = X1"},
		{"f0 = X2 | X1 = X2 | X2 = f0", "f0 = X1 | X2 = X1"},
		{"X3 = X2 | X2 = X1 | X1 = X3", "X1 = X2 | X2 = X3 | X3 = X1"},
		{"f0 = f2(X5) | X1 = X5", "f0 = f2(X1) | X2 = X1"},
	} {
		if y, e := Tidy(small(), parse(c.x)); e != api.OK || write(y) != c.want {
			t.Errorf("%s: %s %d, not %s", c.x, write(y), e, c.want)
		}
	}
}

// most: the clause with the most variables that there may be, each once, falling.
func most() api.Clause {
	n := api.MaxVar
	side := func() api.Term {
		x := v(n)
		for range 59 {
			n--
			x = f(3, x, v(max(n, 1)))
		}
		n--
		return x
	}
	var c api.Clause
	for range api.MaxLiterals {
		c = append(c, api.Literal{Yes: true, A: side(), B: side()})
	}
	return c
}

func TestF2TidyOfTheMostVariables(t *testing.T) {
	c, e := Tidy(small(), most())
	if e != api.OK || len(c) != api.MaxLiterals || Check(small(), []api.Clause{c}) != api.OK {
		t.Fatalf("%d literals, %d", len(c), e)
	}
	// They stood falling, so they rise now.
	s := write(c)
	if !strings.HasPrefix(s, "f3("+strings.Repeat("f3(", 58)+"X1,X2),X3)") || !strings.Contains(s, "X960)") {
		t.Errorf("%s", s)
	}
}

func TestF2AlwaysByHand(t *testing.T) {
	for _, c := range []struct {
		x    string
		want bool
	}{
		{"$false", false},
		{"f0 = f1", false},
		{"f0 = f0", true},
		{"X1 = X1", true},
		{"X1 = X2", false},
		{"f0 != f0", false},
		{"X1 != X1", false},
		{"f0 = f1 | f2(X1) = f2(X1)", true},
		{"f0 = f1 | f2(X1) = f2(X2)", false},
		{"f0 = f1 | f0 != f1", true},
		{"f0 = f1 | f1 != f0", true},
		{"f1 != f0 | f0 = f1", true},
		{"f1 != f0 | f1 != f0", false},
		{"f0 = f1 | f1 = f0", false},
		{"X1 != X2 | f0 = f1 | X2 = X1", true},
		{"X1 != X2 | f0 = f1 | X2 = X3", false},
		{"f3(X1,X2) = f0 | f3(X2,X1) != f0", false},
		{"f3(X1,X2) = f0 | f0 != f3(X1,X2)", true},
		{"f0 != f1 | f0 != f0 | f1 = f2(f0) | X1 != f1", false},
		{"f2(f0) = f0 | f2(f1) = f0 | f2(f0) != f1 | f2(f1) != f0", true},
	} {
		if is, e := Always(small(), parse(c.x)); e != api.OK || is != c.want {
			t.Errorf("%s: %v %d", c.x, is, e)
		}
	}
}

func TestF4TidiedTwiceIsTidiedOnce(t *testing.T) {
	for _, c := range some(400) {
		once, e := Tidy(small(), c)
		twice, h := Tidy(small(), once)
		if e != api.OK || h != api.OK || write(once) != write(twice) {
			t.Errorf("%s: %s, then %s", write(c), write(once), write(twice))
		}
	}
}

// draw: numbers for tests, the same each time.
type draw uint64

func (d *draw) n(n int) int {
	*d = *d*6364136223846793005 + 1442695040888963407
	return int(uint64(*d) >> 33 % uint64(n))
}

func (d *draw) term(deep int) api.Term {
	if n := d.n(6); deep == 0 || n < 3 {
		return []api.Term{v(1), v(2), f(0)}[d.n(3)]
	} else if n < 5 {
		return f(2, d.term(deep-1))
	}
	return f(3, d.term(deep-1), d.term(deep-1))
}

// some clauses with few variables and few functions, so that many of them have to do with each other.
func some(n int) []api.Clause {
	d := new(draw)
	var l []api.Clause
	for range n {
		var c api.Clause
		for range d.n(4) {
			c = append(c, api.Literal{Yes: d.n(3) > 0, A: d.term(2), B: d.term(1)})
		}
		l = append(l, c)
	}
	return l
}
