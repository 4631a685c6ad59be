package proof

import (
	"slices"
	"testing"

	"superpose/api"
	"superpose/infer"
	"superpose/model"
	"superpose/text"
)

// small: two things, a function of one, one of two.
func small() api.Signature { return api.Signature{Arity: []int{0, 0, 1, 2}} }

func v(n int) api.Term { return api.Term{Var: n} }

func f(n int, args ...api.Term) api.Term { return api.Term{Fn: n, Args: args} }

func no(a, b api.Term) api.Literal { return api.Literal{A: a, B: b} }

func yes(a, b api.Term) api.Literal { return api.Literal{Yes: true, A: a, B: b} }

// parse clauses that are the test's own.
func parse(texts ...string) []api.Clause {
	var l []api.Clause
	for _, s := range texts {
		c, e := text.ParseClause(small(), s)
		if e != api.OK {
			panic(s)
		}
		l = append(l, c)
	}
	return l
}

// write clauses.
func write(l []api.Clause) []string {
	var out []string
	for _, c := range l {
		s, e := text.Clause(small(), c)
		if e != api.OK {
			panic(s)
		}
		out = append(out, s)
	}
	return out
}

func tower(n int, x api.Term) api.Term {
	for range n {
		x = f(2, x)
	}
	return x
}

// holder: a term that holds itself.
func holder() api.Term {
	args := make([]api.Term, 2)
	args[0], args[1] = f(0), f(3)
	args[1].Args = args
	return args[1]
}

// Inferences that tests are made of.
func same(left, at int) api.Inference {
	return api.Inference{Kind: api.InferSame, Left: left, LeftAt: at}
}

func put(left, right int, place ...int) api.Inference {
	return api.Inference{Kind: api.InferPut, Left: left, Right: right, Place: place}
}

func TestI1ByHand(t *testing.T) {
	turned := put(0, 1)
	turned.LeftTurned, turned.RightTurned = true, true
	for _, c := range []struct {
		l    []api.Clause
		p    []api.Inference
		want []string // what comes
		is   bool
	}{
		// No proof, whatever is there.
		{nil, nil, nil, false},
		{parse("f0 = f1"), nil, nil, false},
		{parse("f0 = f1", "$false"), nil, nil, false},

		// The document's examples.
		{parse("f2(X1) = f0", "f2(f0) != f0"), []api.Inference{put(0, 1)}, []string{"$false"}, true},
		{parse("f0 != f0"), []api.Inference{same(0, 0)}, []string{"$false"}, true},
		{parse("f2(X1) = X1", "f2(f0) != f0"), []api.Inference{put(0, 1)}, []string{"$false"}, true},

		// One behind the other, of all that are there then.
		{parse("f2(f2(f0)) = f0", "f2(f2(f2(f0))) = f0", "f2(f0) != f0"), []api.Inference{put(0, 1, 0), put(3, 2)}, []string{"f2(f0) = f0", "$false"}, true},
		{parse("f2(f2(f0)) = f0", "f2(f2(f2(f0))) = f0"), []api.Inference{put(0, 1, 0), put(2, 0, 0), put(2, 3)}, []string{"f2(f0) = f0", "f2(f0) = f0", "f0 = f0"}, false},
		{parse("f0 = f1", "f0 != f1"), []api.Inference{turned}, []string{"$false"}, true},

		// It is the last one that counts.
		{parse("f0 != f0", "f1 != X1"), []api.Inference{same(0, 0), same(1, 0)}, []string{"$false", "$false"}, true},
		{parse("f0 != f0", "f1 = f0 | f1 != X1"), []api.Inference{same(0, 0), same(1, 1)}, []string{"$false", "f1 = f0"}, false},
		{parse("$false", "f1 = f0 | f1 != X1"), []api.Inference{same(1, 1)}, []string{"f1 = f0"}, false},
		{parse("$false", "f1 != X1"), []api.Inference{same(1, 0)}, []string{"$false"}, true},

		// Those that were there are as they were, what comes is tidied.
		{parse("X7 = f0 | X9 != X9 | f0 = X7", "f1 != f1 | X4 != X4"), []api.Inference{same(0, 1), same(1, 0)}, []string{"X1 = f0", "$false"}, true},
	} {
		all, e := Clauses(small(), c.l, c.p)
		if want := append(write(c.l), c.want...); e != api.OK || !slices.Equal(write(all), want) {
			t.Errorf("%q %v: %q %d, not %q", write(c.l), c.p, write(all), e, want)
		}
		if is, e := Check(small(), c.l, c.p); is != c.is || e != api.OK {
			t.Errorf("%q %v: %v %d", write(c.l), c.p, is, e)
		}
	}
}

// refused asks that both tell an error, and nothing else.
func refused(t *testing.T, name string, g api.Signature, l []api.Clause, p []api.Inference, want api.Errno) {
	t.Helper()
	if all, e := Clauses(g, l, p); e != want || len(all) != 0 {
		t.Errorf("%s: %v %d, not %d", name, all, e, want)
	}
	if is, e := Check(g, l, p); e != want || is {
		t.Errorf("%s: %v %d, not %d", name, is, e, want)
	}
}

func TestI1Errors(t *testing.T) {
	two := parse("f2(X1) = X1", "f2(f0) != f0")
	wrong := append(parse("f0 = f1"), api.Clause{no(f(0), v(1001))})
	grown := []api.Clause{{yes(f(3, v(1), v(1)), f(0))}, {no(f(3, v(2), tower(59, v(3))), f(0))}}
	for _, c := range []struct {
		name string
		l    []api.Clause
		p    []api.Inference
		want api.Errno
	}{
		{"a variable out of range", wrong, nil, api.ErrRange},
		{"that, ahead of too many inferences", wrong, make([]api.Inference, 99), api.ErrRange},
		{"too many literals", []api.Clause{make(api.Clause, 9)}, nil, api.ErrMany},
		{"a term that holds itself", []api.Clause{{no(holder(), holder())}}, []api.Inference{same(0, 0)}, api.ErrMany},
		{"too many clauses", make([]api.Clause, 61), nil, api.ErrMany},
		{"too many with the inferences, ahead of theirs", two, make([]api.Inference, 59), api.ErrMany},
		{"no such kind", two, []api.Inference{{}}, api.ErrKind},
		{"no such kind, as many as may be", two, make([]api.Inference, 58), api.ErrKind},
		{"no such clause", two, []api.Inference{same(2, 0)}, api.ErrNone},
		{"a clause below 0", two, []api.Inference{put(0, -1)}, api.ErrNone},
		{"itself", two, []api.Inference{put(0, 1), same(3, 0)}, api.ErrNone},
		{"one that is yet to come", two, []api.Inference{put(0, 2), put(0, 1)}, api.ErrNone},
		{"no such literal", two, []api.Inference{same(1, 1)}, api.ErrNone},
		{"no such literal in what came", two, []api.Inference{put(0, 1), same(2, 0)}, api.ErrNone},
		{"what is nothing is something", two, []api.Inference{{Kind: api.InferSame, Left: 1, Right: 1}}, api.ErrForm},
		{"yes instead of no", two, []api.Inference{same(0, 0)}, api.ErrState},
		{"the first one is told", two, []api.Inference{put(0, 1), same(0, 0), {}}, api.ErrState},
		{"a proof, and what is none behind it", two, []api.Inference{put(0, 1), put(0, 1), {Kind: 4}}, api.ErrKind},
		{"too great a term", grown, []api.Inference{put(0, 1)}, api.ErrMany},
	} {
		refused(t, c.name, small(), c.l, c.p, c.want)
	}
	for _, g := range []api.Signature{{Arity: []int{0, 4}}, {Arity: []int{-1}}} {
		refused(t, "the signature", g, two, make([]api.Inference, 99), api.ErrRange)
	}
	refused(t, "the signature", api.Signature{Arity: make([]int, 13)}, wrong, nil, api.ErrMany)
}

func TestI1AsManyAsMayBe(t *testing.T) {
	two := parse("f2(X1) = X1", "f2(f0) != f0")
	for n := range api.MaxClauses - len(two) {
		p := slices.Repeat([]api.Inference{put(0, 1)}, n+1)
		all, e := Clauses(small(), two, p)
		is, h := Check(small(), two, p)
		if len(all) != len(two)+n+1 || e != api.OK || !is || h != api.OK {
			t.Errorf("%d: %d %d, %v %d", n+1, len(all), e, is, h)
		}
	}
	full := slices.Repeat(parse("f0 != f0"), api.MaxClauses)
	if all, e := Clauses(small(), full, nil); len(all) != len(full) || e != api.OK {
		t.Errorf("%d %d", len(all), e)
	}
	refused(t, "one more", small(), full, []api.Inference{same(0, 0)}, api.ErrMany)
	if is, e := Check(small(), full[1:], []api.Inference{same(58, 0)}); !is || e != api.OK {
		t.Errorf("%v %d", is, e)
	}
}

// draw: numbers that are the same each time.
type draw uint64

func (d *draw) n(n int) int {
	*d = *d*6364136223846793005 + 1442695040888963407
	return int(uint64(*d) >> 33 % uint64(n))
}

// some lists of few, short clauses.
func some(d *draw) []api.Clause {
	terms := []api.Term{v(1), v(2), f(0), f(1), f(2, v(1)), f(2, f(0)), f(3, v(1), f(1)), f(3, v(2), v(1))}
	l := make([]api.Clause, 1+d.n(3))
	for n := range l {
		for range 1 + d.n(2) {
			l[n] = append(l[n], api.Literal{Yes: d.n(2) > 0, A: terms[d.n(len(terms))], B: terms[d.n(len(terms))]})
		}
	}
	return l
}

// drawn: a proof of so many inferences, if there are so many.
func drawn(d *draw, l []api.Clause, n int) []api.Inference {
	var p []api.Inference
	for range n {
		all, _ := Clauses(small(), l, p)
		may, _ := infer.All(small(), all, d.n(len(all)), d.n(len(all)+1)-1)
		if len(may) > 0 {
			p = append(p, may[d.n(len(may))])
		}
	}
	return p
}

func TestI1SaysWhatTheWordsSay(t *testing.T) {
	d, refuted := new(draw), 0
	for range 1000 {
		l := some(d)
		p := drawn(d, l, 6)
		want := slices.Clone(l)
		for _, i := range p {
			c, e := infer.Infer(small(), want, i)
			if e != api.OK {
				t.Fatalf("%q %v: %d", write(l), p, e)
			}
			want = append(want, c)
		}
		all, e := Clauses(small(), l, p)
		if e != api.OK || !slices.Equal(write(all), write(want)) {
			t.Errorf("%q %v: %q %d, not %q", write(l), p, write(all), e, write(want))
		}
		empty := len(p) > 0 && len(want[len(want)-1]) == 0
		if is, e := Check(small(), l, p); is != empty || e != api.OK {
			t.Errorf("%q %v: %v %d", write(l), p, is, e)
		}
		if empty {
			refuted++
		}
	}
	if refuted < 50 || refuted > 950 {
		t.Errorf("%d of 1000 proofs", refuted)
	}
}

// models of one and of two things, all of them, and some of three.
func models() []api.Model {
	l := []api.Model{{Size: 1, Tables: [][]int{{0}, {0}, {0}, {0}}}}
	for n := range 256 {
		bit := func(i int) int { return n >> i & 1 }
		l = append(l, api.Model{Size: 2, Tables: [][]int{{bit(0)}, {bit(1)}, {bit(2), bit(3)}, {bit(4), bit(5), bit(6), bit(7)}}})
	}
	d := new(draw)
	for range 100 {
		m := api.Model{Size: 3, Tables: [][]int{{d.n(3)}, {d.n(3)}, {d.n(3), d.n(3), d.n(3)}, {}}}
		for range 9 {
			m.Tables[3] = append(m.Tables[3], d.n(3))
		}
		l = append(l, m)
	}
	return l
}

// holdAll: do all clauses of a list hold in a model?
func holdAll(t *testing.T, m api.Model, l []api.Clause) bool {
	return !slices.ContainsFunc(l, func(c api.Clause) bool {
		is, e := model.Holds(small(), m, c)
		if e != api.OK {
			t.Fatalf("%q: %d", write(l), e)
		}
		return !is
	})
}

func TestI2NoModel(t *testing.T) {
	d, proofs, held := new(draw), 0, 0
	for range 1500 {
		l := some(d)
		p := drawn(d, l, 4)
		is, e := Check(small(), l, p)
		if e != api.OK {
			t.Fatalf("%q %v: %d", write(l), p, e)
		}
		if is {
			proofs++
		}
		for n, m := range models() {
			if holdAll(t, m, l) {
				held++
				if is {
					t.Errorf("%q %v: a proof, and all hold in model %d", write(l), p, n)
				}
				break
			}
		}
	}
	if proofs < 50 || held < 50 {
		t.Errorf("only %d proofs, %d with a model", proofs, held)
	}
}
