package search

import (
	"slices"
	"testing"

	"superpose/api"
	"superpose/text"
)

// small: two things, a function of one, one of two.
func small() api.Signature { return api.Signature{Arity: []int{0, 0, 1, 2}} }

func v(n int) api.Term { return api.Term{Var: n} }

func f(n int, args ...api.Term) api.Term { return api.Term{Fn: n, Args: args} }

func no(a, b api.Term) api.Literal { return api.Literal{A: a, B: b} }

func yes(a, b api.Term) api.Literal { return api.Literal{Yes: true, A: a, B: b} }

// parse clauses that are the test's own.
func parse(texts ...string) []api.Clause {
	var l []api.Clause
	for _, s := range texts {
		c, e := text.ParseClause(small(), s)
		if e != api.OK {
			panic(s)
		}
		l = append(l, c)
	}
	return l
}

// write clauses.
func write(l []api.Clause) []string {
	var out []string
	for _, c := range l {
		s, e := text.Clause(small(), c)
		if e != api.OK {
			panic(s)
		}
		out = append(out, s)
	}
	return out
}

func tower(n int, x api.Term) api.Term {
	for range n {
		x = f(2, x)
	}
	return x
}

// holder: a term that holds itself.
func holder() api.Term {
	args := make([]api.Term, 2)
	args[0], args[1] = f(0), f(3)
	args[1].Args = args
	return args[1]
}

// draw: numbers that are the same each time.
type draw uint64

func (d *draw) n(n int) int {
	*d = *d*6364136223846793005 + 1442695040888963407
	return int(uint64(*d) >> 33 % uint64(n))
}

// drawn: a list of so many clauses, of up to so many literals.
func drawn(d *draw, clauses, literals int) []api.Clause {
	terms := []api.Term{v(1), v(2), f(0), f(1), f(0), f(1), f(2, v(1)), f(2, f(0)), f(2, f(1)), f(3, v(1), v(2)), f(3, f(0), v(1)), f(3, v(1), f(2, v(1)))}
	l := make([]api.Clause, clauses)
	for n := range l {
		for range 1 + d.n(literals) {
			l[n] = append(l[n], api.Literal{Yes: d.n(2) > 0, A: terms[d.n(len(terms))], B: terms[d.n(len(terms))]})
		}
	}
	return l
}

// found: what Search answers, if Is lets it be.
func found(t *testing.T, l []api.Clause, fuel int) api.Answer {
	t.Helper()
	a, e := Search(small(), l, fuel)
	if e != api.OK {
		t.Fatalf("%q %d: %d", write(l), fuel, e)
	}
	if is, e := Is(small(), l, a); !is || e != api.OK {
		t.Errorf("%q %d: %v: %v %d", write(l), fuel, a, is, e)
	}
	return a
}

func TestJ1ByHand(t *testing.T) {
	for _, c := range []struct {
		l    []api.Clause
		want int
	}{
		{nil, api.VerdictSaturated},
		{parse("f0 = f0"), api.VerdictSaturated},
		{parse("$false"), api.VerdictRefuted},
		{parse("f0 = f1", "$false"), api.VerdictRefuted},

		// The document's examples.
		{parse("f2(X1) = X1", "f2(f0) != f0"), api.VerdictRefuted},
		{parse("f2(X1) = X1"), api.VerdictSaturated},
		{parse("f2(X1) = f0", "f2(f0) != f0"), api.VerdictRefuted},
		{parse("f0 != f0"), api.VerdictRefuted},

		// Each kind of inference is needed.
		{parse("f2(X1) != f2(f0)"), api.VerdictRefuted},
		{parse("X1 = f0 | X1 = f1", "f2(X1) != f0", "f2(X1) != f1"), api.VerdictRefuted},
		{parse("f2(X1) = f2(f0) | f2(X1) = f2(f1)", "f2(f0) != f2(f1) | f2(X1) != f2(X1)", "f2(X1) != f2(f0)"), api.VerdictRefuted},
		{parse("f1 = f0 | f1 = f0", "f1 != f0 | f1 != f0"), api.VerdictRefuted},

		// By several, one behind the other.
		{parse("f2(f2(f2(f0))) = f0", "f2(f2(f2(f2(f2(f0))))) = f0", "f2(f0) != f0"), api.VerdictRefuted},
		{parse("f3(X1,f0) = X1", "f3(X1,f2(X2)) = f2(f3(X1,X2))", "f3(f2(f2(f0)),f2(f2(f0))) != f2(f2(f2(f2(f0))))"), api.VerdictRefuted},
		{parse("f3(X1,X2) != f0 | f3(X2,X3) != f0 | f3(X1,X3) = f0", "f3(f0,f1) = f0", "f3(f1,f2(f0)) = f0", "f3(f0,f2(f0)) != f0"), api.VerdictRefuted},
		{parse("f2(X1) != f2(X2) | X1 = X2", "f2(f0) = f2(f1)", "f0 != f1"), api.VerdictRefuted},

		{parse("f0 != f1", "f2(X1) != f1"), api.VerdictSaturated},
		// Variables that can't be made others, but for their being numbered anew, which a proof can't.
		{parse("f2(X600) = f0", "f2(X1) != f1"), api.VerdictSaturated},
		{parse("f2(X1000) != X1000", "f2(X999) = f2(X998)"), api.VerdictUnknown},
		// Clauses that subsume what comes of them where two of their literals become one.
		{parse("f2(X1) = f0 | f2(X2) = f0", "f2(X1) != f0 | f2(X2) != f0"), api.VerdictRefuted},
		{parse("f1 = f0 | f0 = f1", "f1 != f0 | f0 != f1"), api.VerdictRefuted},

		// No set of its own has an end, but that all are one says it.
		{parse("f3(X1,f0) = X1", "f3(f0,X1) = X1", "f3(f3(X1,X2),X3) = f3(X1,f3(X2,X3))"), api.VerdictSaturated},
		// And here that does not.
		{parse("f3(X1,f0) = X1", "f3(f0,X1) = X1", "f3(f3(X1,X2),X3) = f3(X1,f3(X2,X3))", "f0 != f1"), api.VerdictUnknown},
	} {
		if a := found(t, c.l, api.MaxFuel); a.Verdict != c.want {
			t.Errorf("%q: %d, not %d", write(c.l), a.Verdict, c.want)
		}
	}
}

func TestJ1Errors(t *testing.T) {
	two := parse("f2(X1) = X1", "f2(f0) != f0")
	for _, c := range []struct {
		name string
		g    api.Signature
		l    []api.Clause
		fuel int
		want api.Errno
	}{
		{"fuel below 0", small(), two, -1, api.ErrRange},
		{"fuel far below 0", small(), nil, -1 << 63, api.ErrRange},
		{"too much fuel", small(), two, api.MaxFuel + 1, api.ErrRange},
		{"far too much fuel", small(), parse("$false"), 1<<63 - 1, api.ErrRange},
		{"too many clauses, ahead of fuel", small(), make([]api.Clause, 61), -1, api.ErrMany},
		{"too many literals", small(), []api.Clause{make(api.Clause, 9)}, 1, api.ErrMany},
		{"a variable out of range", small(), []api.Clause{{no(v(1001), f(0))}}, 1, api.ErrRange},
		{"no such function", small(), []api.Clause{{no(f(4), f(0))}}, -1, api.ErrNone},
		{"too few arguments", small(), []api.Clause{nil, {no(f(0), f(2))}}, 1, api.ErrForm},
		{"a term that holds itself", small(), []api.Clause{{no(holder(), holder())}}, 1, api.ErrMany},
		{"a signature", api.Signature{Arity: []int{4}}, make([]api.Clause, 61), -1, api.ErrRange},
		{"too great a signature", api.Signature{Arity: make([]int, 13)}, two, -1, api.ErrMany},
	} {
		a, e := Search(c.g, c.l, c.fuel)
		if e != c.want || a.Verdict != 0 || len(a.Proof) != 0 || len(a.Set) != 0 {
			t.Errorf("%s: %v %d, not %d", c.name, a, e, c.want)
		}
	}
}

// things that are made the same as each other.
type things []int

func (x things) head(n int) int {
	for x[n] != n {
		n = x[n]
	}
	return n
}

// simply: the verdict of a list of clauses of one literal each, of functions without arguments.
func simply(l []api.Clause) int {
	x := make(things, api.MaxFunctions)
	for n := range x {
		x[n] = n
	}
	for _, c := range l {
		if c[0].Yes {
			x[x.head(c[0].A.Fn)] = x.head(c[0].B.Fn)
		}
	}
	for _, c := range l {
		if !c[0].Yes && x.head(c[0].A.Fn) == x.head(c[0].B.Fn) {
			return api.VerdictRefuted
		}
	}
	return api.VerdictSaturated
}

// knows asks that Search knows of a simple list, and says how it is.
func knows(t *testing.T, l []api.Clause) int {
	g := api.Signature{Arity: make([]int, api.MaxFunctions)}
	a, e := Search(g, l, api.MaxFuel)
	is, h := Is(g, l, a)
	if e != api.OK || !is || h != api.OK || a.Verdict != simply(l) {
		t.Errorf("%v: %v %d, %v %d", l, a, e, is, h)
	}
	return a.Verdict
}

// simpleLiterals: all of so many functions without arguments.
func simpleLiterals(n int) []api.Literal {
	var l []api.Literal
	for i := range n * n {
		l = append(l, yes(f(i%n), f(i/n)), no(f(i%n), f(i/n)))
	}
	return l
}

func TestJ1OfSimpleListsItAlwaysKnows(t *testing.T) {
	all := simpleLiterals(3)
	knows(t, nil)
	for _, a := range all {
		knows(t, []api.Clause{{a}})
		for _, b := range all {
			knows(t, []api.Clause{{a}, {b}})
			for _, c := range all {
				knows(t, []api.Clause{{a}, {b}, {c}})
			}
		}
	}
}

func TestJ1OfSimpleListsOfFourItAlwaysKnows(t *testing.T) {
	d, count := new(draw), map[int]int{}
	for n := range 30000 {
		things := simpleLiterals(2 + n%7)
		var l []api.Clause
		for range 4 {
			// More of what is yes: else there is little to do.
			x := things[d.n(len(things))]
			x.Yes = x.Yes || d.n(2) > 0
			l = append(l, api.Clause{x})
		}
		count[knows(t, l)]++
	}
	if count[api.VerdictRefuted] < 3000 || count[api.VerdictSaturated] < 3000 {
		t.Errorf("too few of a sort: %v", count)
	}
}

func TestJ1OfTheLongestSimpleLists(t *testing.T) {
	// Whichever stands where: four that make five things one, or three and what is not so.
	orders := [][]int{{11, 10, 9, 8, 7}, {7, 8, 9, 10, 11}, {9, 11, 7, 10, 8}, {8, 11, 10, 7, 9}}
	for _, o := range orders {
		for turned := range 16 {
			one := func(n, a, b int, is bool) api.Clause {
				if turned>>n&1 > 0 {
					a, b = b, a
				}
				return api.Clause{{Yes: is, A: f(o[a]), B: f(o[b])}}
			}
			knows(t, []api.Clause{one(0, 0, 1, true), one(1, 0, 2, true), one(2, 0, 3, true), one(3, 0, 4, true)})
			knows(t, []api.Clause{one(0, 0, 1, true), one(1, 1, 2, true), one(2, 2, 3, true), one(3, 3, 4, true)})
			knows(t, []api.Clause{one(0, 0, 1, true), one(1, 1, 2, true), one(2, 2, 3, true), one(3, 3, 4, false)})
			knows(t, []api.Clause{one(0, 0, 1, true), one(1, 1, 2, true), one(2, 2, 3, true), one(3, 0, 3, false)})
			knows(t, []api.Clause{one(3, 0, 3, false), one(2, 2, 3, true), one(1, 1, 2, true), one(0, 0, 1, true)})
			knows(t, []api.Clause{one(0, 0, 1, true), one(1, 2, 3, true), one(2, 0, 2, false), one(3, 1, 3, false)})
		}
	}
}

func TestJ1AnswersMayBe(t *testing.T) {
	d, count := new(draw), map[int]int{}
	for n := range 150 {
		l := drawn(d, 1+d.n(5), 1+n%3)
		for _, fuel := range []int{0, 1, 3, 8} {
			a := found(t, l, fuel)
			count[a.Verdict]++
			if !plainIs(t, l, a) {
				t.Errorf("%q %d: %v", write(l), fuel, a)
			}
		}
	}
	if count[api.VerdictRefuted] < 50 || count[api.VerdictSaturated] < 50 || count[api.VerdictUnknown] < 50 {
		t.Errorf("too few of a sort: %v", count)
	}
}

func TestJ1OfAsManyClausesAsMayBe(t *testing.T) {
	// Those that others say do not count.
	full := slices.Repeat(parse("f1 = f0", "f2(X1) != f1", "f2(X1) != f0"), api.MaxClauses/3)
	if a := found(t, full, api.MaxFuel); a.Verdict != api.VerdictSaturated || len(a.Set) != 3 {
		t.Errorf("%v", a)
	}
	// One inference has room behind 59, none behind 60, and the empty clause needs none.
	full[0] = parse("f0 != X1")[0]
	if a := found(t, full[:59], api.MaxFuel); a.Verdict != api.VerdictRefuted || len(a.Proof) != 1 {
		t.Errorf("%v", a)
	}
	if a := found(t, full, api.MaxFuel); a.Verdict != api.VerdictUnknown {
		t.Errorf("%v", a)
	}
	full[59] = nil
	if a := found(t, full, 0); a.Verdict != api.VerdictRefuted || len(a.Proof) != 0 {
		t.Errorf("%v", a)
	}
}
