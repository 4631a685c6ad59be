package order

import (
	"slices"
	"testing"

	"superpose/api"
	"superpose/subst"
	"superpose/text"
)

// small: two things, a function of one, one of two, one of three; and greater ones.
func small() api.Signature { return api.Signature{Arity: []int{0, 0, 1, 2, 3, 0, 2, 1}} }

func v(n int) api.Term { return api.Term{Var: n} }

func f(n int, args ...api.Term) api.Term { return api.Term{Fn: n, Args: args} }

// parse a term that is the test's own.
func parse(s string) api.Term {
	x, e := text.ParseTerm(small(), s)
	if e != api.OK {
		panic(s)
	}
	return x
}

func write(x api.Term) string {
	s, _ := text.Term(small(), x)
	return s
}

// tower: n functions of one argument on a term.
func tower(fn, n int, x api.Term) api.Term {
	for range n {
		x = f(fn, x)
	}
	return x
}

// compared: what Compare says, once Greater says the same of both ways.
func compared(t *testing.T, a, b api.Term) int {
	up, e1 := Greater(small(), a, b)
	down, e2 := Greater(small(), b, a)
	n, e3 := Compare(small(), a, b)
	m, e4 := Compare(small(), b, a)
	if e1 != api.OK || e2 != api.OK || e3 != api.OK || e4 != api.OK {
		t.Fatalf("%s and %s: %d %d %d %d", write(a), write(b), e1, e2, e3, e4)
	}
	if up != (n == 1) || down != (n == -1) || n != -m || n < -1 || n > 1 {
		t.Errorf("%s and %s: Greater %v %v, Compare %d %d", write(a), write(b), up, down, n, m)
	}
	return n
}

func TestD1D2ByHand(t *testing.T) {
	for _, c := range []struct {
		a, b string
		want int
	}{
		// Variables: one is greater than nothing, and less than what it stands in.
		{"X1", "X1", 0},
		{"X1", "X2", 0},
		{"X2", "X1", 0},
		{"X1", "f0", 0},
		{"f2(X1)", "X1", 1},
		{"f2(X1)", "X2", 0},
		{"f4(f0,f2(X9),f1)", "X9", 1},
		{"f4(f0,f2(X9),f1)", "X8", 0},

		// The document's example 4.
		{"f0", "f2(f0)", -1},

		// An argument that is the other one, or greater.
		{"f2(f0)", "f0", 1},
		{"f2(f5)", "f5", 1},
		{"f2(f5)", "f4(f0,f1,f1)", 1},
		{"f3(f0,f2(f5))", "f5", 1},
		{"f0", "f5", -1},
		{"f2(f2(X1))", "f2(X1)", 1},

		// A greater function: greater than each argument.
		{"f1", "f0", 1},
		{"f3(X1,X2)", "f2(X1)", 1},
		{"f3(X1,X2)", "f2(X3)", 0},
		{"f3(f0,f0)", "f2(f1)", 1},
		{"f3(f0,f0)", "f2(f5)", -1},
		{"f6(X1,X2)", "f3(X2,f4(X1,X2,X1))", 1},
		{"f6(X1,X2)", "f3(X2,f4(X1,X3,X1))", 0},
		{"f6(X1,X2)", "f3(X3,f4(X1,X2,X1))", 0},
		{"f7(X1)", "f3(X1,f6(X1,X1))", 1},

		// The same function: the first arguments that are not the same, and greater than each argument.
		{"f2(f1)", "f2(f0)", 1},
		{"f2(X1)", "f2(X2)", 0},
		{"f3(f1,f0)", "f3(f0,f1)", 1},
		{"f3(f0,f1)", "f3(f0,f0)", 1},
		{"f3(X1,f1)", "f3(X1,f0)", 1},
		{"f3(X1,X2)", "f3(X2,X1)", 0},
		{"f3(f2(X1),X2)", "f3(X1,X2)", 1},
		{"f3(f2(X1),f0)", "f3(X1,X2)", 0},
		{"f3(f2(X1),X2)", "f3(X1,f3(X1,X2))", 1},
		{"f3(f2(X1),X2)", "f3(X1,f4(X1,X2,X2))", -1},
		{"f3(f1,f0)", "f3(f0,f5)", -1},
		{"f4(f0,f1,f0)", "f4(f0,f0,f1)", 1},
		{"f4(X1,f1,X2)", "f4(X1,f0,X2)", 1},
		{"f4(X1,X2,X3)", "f4(X1,X2,X3)", 0},
		{"f3(f3(X1,X2),X3)", "f3(X1,f3(X2,X3))", 1},

		// A less function.
		{"f2(X1)", "f3(X1,X1)", -1},
		{"f2(X1)", "f3(X1,X2)", -1},
		{"f2(X3)", "f3(X1,X2)", 0},
		{"f2(f2(X1))", "f3(X1,X1)", -1},
	} {
		if n := compared(t, parse(c.a), parse(c.b)); n != c.want {
			t.Errorf("%s and %s: %d, not %d", c.a, c.b, n, c.want)
		}
	}
}

func TestD1D2Errors(t *testing.T) {
	big := tower(2, api.MaxSize, v(1))
	loop := make([]api.Term, 1)
	loop[0] = api.Term{Fn: 2, Args: loop}
	bad := api.Signature{Arity: []int{0, 4}}
	many := api.Signature{Arity: make([]int, api.MaxFunctions+1)}
	for i, c := range []struct {
		g    api.Signature
		s, t api.Term
		want api.Errno
	}{
		{small(), f(9), f(0), api.ErrNone},
		{small(), f(0), f(9), api.ErrNone},
		{small(), v(1001), f(9), api.ErrRange},
		{small(), f(9), v(1001), api.ErrNone},
		{small(), v(1), v(-1), api.ErrRange},
		{small(), f(2), v(1001), api.ErrForm},
		{small(), v(1), f(3, v(1)), api.ErrForm},
		{small(), big, v(1001), api.ErrMany},
		{small(), v(1), big, api.ErrMany},
		{small(), loop[0], loop[0], api.ErrMany},
		{bad, big, f(9), api.ErrRange},
		{many, f(9), big, api.ErrMany},
		{api.Signature{}, v(1), f(0), api.ErrNone},
	} {
		up, e := Greater(c.g, c.s, c.t)
		n, h := Compare(c.g, c.s, c.t)
		if up || n != 0 || e != c.want || h != c.want {
			t.Errorf("%d: %v %d, %d %d, not %d", i, up, e, n, h, c.want)
		}
	}
}

// plain asks by the document's words, without keeping anything.
func plain(s, t api.Term) bool {
	if s.Var != 0 {
		return false
	}
	if t.Var != 0 {
		return write(s) != write(t) && in(t, s)
	}
	for _, a := range s.Args {
		if write(a) == write(t) || plain(a, t) {
			return true
		}
	}
	if s.Fn < t.Fn {
		return false
	}
	for _, a := range t.Args {
		if !plain(s, a) {
			return false
		}
	}
	if s.Fn > t.Fn {
		return true
	}
	for i := range s.Args {
		if write(s.Args[i]) != write(t.Args[i]) {
			return plain(s.Args[i], t.Args[i])
		}
	}
	return false
}

func in(x, y api.Term) bool {
	return write(x) == write(y) || slices.ContainsFunc(y.Args, func(a api.Term) bool { return in(x, a) })
}

// some terms: with variables and without, of little depth; the same each time.
func some() []api.Term {
	first := []api.Term{v(1), v(2), f(0), f(1), f(5)}
	terms := slices.Clone(first)
	for i, a := range first {
		terms = append(terms, f(2, a), f(7, a))
		for k, b := range first {
			terms = append(terms, f(3, a, b))
			if (i+k)%2 == 0 {
				terms = append(terms, f(6, b, a), f(3, f(2, a), b), f(3, a, f(3, b, a)), f(4, a, b, f(2, a)), f(2, f(6, a, b)))
			}
		}
	}
	return terms
}

func TestD1SaysWhatTheWordsSay(t *testing.T) {
	for _, a := range some() {
		for _, b := range some() {
			if n := compared(t, a, b); (n == 1) != plain(a, b) || (n == -1) != plain(b, a) {
				t.Errorf("%s and %s: %d", write(a), write(b), n)
			}
		}
	}
}

// draw: numbers that are the same each time.
type draw uint64

func (d *draw) n(n int) int {
	*d = *d*6364136223846793005 + 1442695040888963407
	return int(uint64(*d) >> 33 % uint64(n))
}

// drawn: a term of some depth.
func drawn(d *draw, depth int) api.Term {
	if depth == 0 || d.n(5) == 0 {
		return []api.Term{v(1), v(2), f(0), f(1), f(5)}[d.n(5)]
	}
	fn := []int{2, 3, 3, 4, 6, 7}[d.n(6)]
	x := f(fn)
	for range small().Arity[fn] {
		x.Args = append(x.Args, drawn(d, depth-1))
	}
	return x
}

// changed: the term with another one somewhere, so that much stays the same.
func changed(d *draw, x, y api.Term) api.Term {
	if len(x.Args) == 0 || d.n(3) == 0 {
		return y
	}
	z := f(x.Fn, slices.Clone(x.Args)...)
	i := d.n(len(z.Args))
	z.Args[i] = changed(d, z.Args[i], y)
	return z
}

func TestD1SaysWhatTheWordsSayOfDrawnTerms(t *testing.T) {
	d := new(draw)
	for range 4000 {
		a, b := drawn(d, 3), drawn(d, 3)
		for _, c := range []api.Term{b, changed(d, a, drawn(d, 2))} {
			if n := compared(t, a, c); (n == 1) != plain(a, c) || (n == -1) != plain(c, a) {
				t.Errorf("%s and %s: %d", write(a), write(c), n)
			}
		}
	}
}

func TestD3NothingIsGreaterThanItself(t *testing.T) {
	for _, a := range some() {
		if compared(t, a, a) != 0 {
			t.Errorf("%s", write(a))
		}
	}
}

func TestD3WhatIsGreaterThanAGreaterOne(t *testing.T) {
	terms := some()
	for _, a := range terms {
		var lesser []api.Term
		for _, b := range terms {
			if up, _ := Greater(small(), a, b); up {
				lesser = append(lesser, b)
			}
		}
		for _, b := range lesser {
			for _, c := range terms {
				if next, _ := Greater(small(), b, c); !next {
					continue
				}
				if all, _ := Greater(small(), a, c); !all {
					t.Errorf("%s, %s, %s", write(a), write(b), write(c))
				}
			}
		}
	}
}

// inner: all that stands in a term, without itself.
func inner(x api.Term) []api.Term {
	var l []api.Term
	for _, a := range x.Args {
		l = append(append(l, a), inner(a)...)
	}
	return l
}

func TestD3GreaterThanWhatStandsInIt(t *testing.T) {
	for _, a := range append(some(), tower(2, 119, v(1)), tower(7, 119, f(5))) {
		for _, b := range inner(a) {
			if compared(t, a, b) != 1 {
				t.Errorf("%s and %s", write(a), write(b))
			}
		}
	}
}

func ground(x api.Term) bool {
	return x.Var == 0 && !slices.ContainsFunc(x.Args, func(a api.Term) bool { return !ground(a) })
}

func TestD3OfTwoWithoutVariablesOneIsGreater(t *testing.T) {
	for i, a := range some() {
		for k, b := range some() {
			if ground(a) && ground(b) && write(a) != write(b) && compared(t, a, b) == 0 {
				t.Errorf("%d %d: %s and %s", i, k, write(a), write(b))
			}
		}
	}
}

func TestD3StaysSoWhateverIsPutIn(t *testing.T) {
	put := []api.Term{v(2), v(3), f(0), f(5), f(2, v(1)), f(3, v(2), f(7, v(3)))}
	for _, a := range some() {
		for _, b := range some() {
			up, _ := Greater(small(), a, b)
			if !up {
				continue
			}
			for i, x := range put {
				bindings := []api.Binding{{Var: 1, To: x}, {Var: 2, To: put[(i*5+1)%len(put)]}}
				c, _ := subst.Apply(small(), bindings, a)
				d, _ := subst.Apply(small(), bindings, b)
				if compared(t, c, d) != 1 {
					t.Errorf("%s and %s, with %v", write(a), write(b), bindings)
				}
			}
		}
	}
}

func TestP1GreatTermsEndSoon(t *testing.T) {
	left, right := v(1), v(2)
	for range 59 {
		left, right = f(3, left, v(3)), f(3, right, v(3))
	}
	comb, mirrored := f(0), f(1)
	for range 59 {
		comb, mirrored = f(6, f(0), comb), f(6, f(1), mirrored)
	}
	for i, c := range []struct {
		a, b api.Term
		want int
	}{
		{tower(2, 119, v(1)), tower(2, 119, v(2)), 0},
		{tower(2, 119, f(1)), tower(2, 119, f(0)), 1},
		{tower(2, 119, f(0)), tower(2, 118, f(0)), 1},
		{tower(2, 119, f(5)), tower(7, 119, f(0)), -1},
		{tower(2, 60, tower(7, 59, v(1))), tower(7, 60, tower(2, 59, v(1))), -1},
		{left, right, 0},
		{comb, mirrored, -1},
	} {
		if n := compared(t, c.a, c.b); n != c.want {
			t.Errorf("%d: %d, not %d", i, n, c.want)
		}
	}
}
