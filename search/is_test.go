package search

import (
	"slices"
	"testing"

	"superpose/api"
	"superpose/clause"
	"superpose/infer"
	"superpose/proof"
)

func refutedBy(p ...api.Inference) api.Answer {
	return api.Answer{Verdict: api.VerdictRefuted, Proof: p}
}

func saturatedBy(set ...api.Clause) api.Answer {
	return api.Answer{Verdict: api.VerdictSaturated, Set: set}
}

// with a proof, or a set, that does not belong there.
func with(a api.Answer, p []api.Inference, set []api.Clause) api.Answer {
	a.Proof, a.Set = append(slices.Clone(a.Proof), p...), append(slices.Clone(a.Set), set...)
	return a
}

func TestJ2RefutedAndUnknownByHand(t *testing.T) {
	two := parse("f2(X1) = X1", "f2(f0) != f0")
	put := api.Inference{Kind: api.InferPut, Right: 1}
	for n, c := range []struct {
		l    []api.Clause
		a    api.Answer
		want bool
	}{
		{two, refutedBy(put), true},
		{two, refutedBy(put, put), true},
		{two, refutedBy(), false},
		{two, refutedBy(put, api.Inference{Kind: api.InferPut, Left: 0, Right: 0}), false},
		{two, with(refutedBy(put), nil, two), false},
		{two, with(refutedBy(put), nil, []api.Clause{nil}), false},
		{two[:1], refutedBy(put), false},
		// What is wrong with a proof is no error: it does not pass.
		{two, refutedBy(put, api.Inference{Kind: 9}), false},
		{two, refutedBy(api.Inference{Kind: api.InferSame}), false},
		{two, refutedBy(make([]api.Inference, 100)...), false},
		{two, with(refutedBy(put), nil, make([]api.Clause, 100)), false},
		{two, with(refutedBy(put), nil, []api.Clause{{no(v(-1), holder())}}), false},
		// The empty clause needs none; one may be there all the same.
		{parse("f0 = f1", "$false"), refutedBy(), true},
		{parse("$false", "f0 = f1"), refutedBy(), true},
		{parse("$false", "f0 != f0"), refutedBy(api.Inference{Kind: api.InferSame, Left: 1}), true},
		{parse("$false", "f2(f0) = f0"), refutedBy(api.Inference{Kind: api.InferPut, Left: 1, Right: 1}), false},
		{parse("$false"), with(refutedBy(), nil, two), false},
		{parse("f0 != f0"), refutedBy(), false},
		{nil, refutedBy(), false},

		{two, api.Answer{Verdict: api.VerdictUnknown}, true},
		{nil, api.Answer{Verdict: api.VerdictUnknown}, true},
		{parse("$false"), api.Answer{Verdict: api.VerdictUnknown}, true},
		{two, api.Answer{Verdict: api.VerdictUnknown, Proof: []api.Inference{}, Set: []api.Clause{}}, true},
		{two, api.Answer{Verdict: api.VerdictUnknown, Proof: []api.Inference{put}}, false},
		{two, api.Answer{Verdict: api.VerdictUnknown, Set: two}, false},
		{two, api.Answer{Verdict: api.VerdictUnknown, Set: make([]api.Clause, 17)}, false},
	} {
		if is, e := Is(small(), c.l, c.a); is != c.want || e != api.OK {
			t.Errorf("%d: %q: %v %d", n, write(c.l), is, e)
		}
	}
}

func TestJ2SaturatedByHand(t *testing.T) {
	for n, c := range []struct {
		l, set []api.Clause
		want   bool
	}{
		{nil, nil, true},
		{nil, parse("f0 = f1"), true},
		{parse("f0 = f1"), nil, false},
		{parse("f0 = f1"), parse("f0 = f1"), true},
		{parse("f0 = f1"), parse("f1 = f0"), true},
		{parse("f0 = f1"), parse("X1 = X2"), true},
		{parse("f0 = f1 | f2(f0) != f0"), parse("f0 = f1"), true},
		{parse("f0 = f1"), parse("f0 = f1 | f2(f0) != f0"), false},
		{parse("f0 = f0", "f0 = f1 | f1 != f0"), nil, true},
		{parse("f2(X1) = X1"), parse("f2(X1) = X1"), true},
		{parse("f2(X1) = X1", "f2(f0) = f0"), parse("f2(X5) = X5"), true},

		// The empty clause is none of it, though it subsumes all.
		{parse("f0 = f1"), parse("$false"), false},
		{nil, parse("$false"), false},
		{parse("f0 = f1"), parse("f0 = f1", "$false"), false},

		// What comes of one.
		{nil, parse("f0 != f0"), false},
		{nil, parse("f0 != f1"), true},
		{nil, parse("f0 != X1"), false},
		{nil, parse("f2(X1) != X1"), true},
		{nil, parse("f2(X1) != X1 | f2(f0) != f2(X1)"), false},
		{nil, parse("f2(X1) != X1 | f2(f0) != f2(X1)", "f2(f0) != f0"), true},
		{nil, parse("f2(X1) = f0 | f2(X1) = f1"), false},
		{nil, parse("f1 = f0 | f1 = f0"), true},

		// Of two, either way, and of one twice.
		{nil, parse("f1 = f0", "f2(f1) != f0"), false},
		{nil, parse("f2(f1) != f0", "f1 = f0"), false},
		{nil, parse("f1 = f0", "f2(f1) != f0", "f2(f0) != f0"), true},
		{nil, parse("f1 = f0", "f2(f1) = f0", "f2(f0) = f0"), true},
		{nil, parse("f2(f2(X1)) = f2(X1)"), true},
		{nil, parse("f2(f2(X1)) = f0"), false},
		{nil, parse("f2(f2(X1)) = f0", "f2(f0) = f0"), true},
		{nil, parse("f3(X1,X2) = f3(X2,X1)"), true},
		{nil, parse("f3(f3(X1,X2),X3) = f3(X1,f3(X2,X3))"), false},

		// None may have ErrMany: variables that can't be made others, be the sides to be made the same or not.
		{nil, parse("f2(X999) = f0"), false},
		{nil, parse("f2(X500) = f0"), true},
		{nil, parse("f2(X501) = f0"), false},
		{nil, parse("f2(X1000) != f0"), true},
		{nil, parse("f2(X1000) != f0", "f1 = f0"), true},
		{nil, parse("f2(X1000) != f0", "X1 = X1"), false},
		{nil, parse("f3(X999,X1) != f0", "f2(X1) = f1"), true},
		{nil, parse("f3(X1000,X1) != f0", "f2(X1) = f1"), false},
		{nil, parse("X999 = X1", "X1 = X2"), true},
		{nil, parse("X1000 = X1", "X1 = X2"), true},
		{nil, parse("X1000 = X1", "f0 = f0"), true},
		// Terms that would be too great; literals that would be too many.
		{nil, []api.Clause{{yes(f(3, v(1), v(1)), f(0))}, {no(f(3, v(2), tower(59, v(3))), f(0))}}, false},
		{nil, []api.Clause{{yes(f(3, v(1), v(1)), f(0))}, {no(f(3, v(2), f(1)), f(0))}}, false},
		{nil, []api.Clause{{yes(f(3, v(1), v(1)), f(0))}, {no(f(3, v(2), f(1)), f(0))}, {no(f(0), f(0))}}, false},
		{nil, []api.Clause{eight(f(0), v(1))[1:]}, true},
		{nil, []api.Clause{eight(f(1), f(0))}, false},
	} {
		a := saturatedBy(c.set...)
		is, e := Is(small(), c.l, a)
		if is != c.want || e != api.OK {
			t.Errorf("%d: %q, %q: %v %d", n, write(c.l), write(c.set), is, e)
		}
		if is != plainIs(t, c.l, a) {
			t.Errorf("%d: %q, %q: the plain reading says otherwise", n, write(c.l), write(c.set))
		}
		// A proof does not belong there.
		a = with(a, make([]api.Inference, 1), nil)
		if is, e := Is(small(), c.l, a); is || e != api.OK {
			t.Errorf("%d: %q, %q, with a proof: %v %d", n, write(c.l), write(c.set), is, e)
		}
	}
}

// eight literals: two terms are the same, and seven variables are not f2 of themselves.
func eight(a, b api.Term) api.Clause {
	c := api.Clause{yes(a, b)}
	for n := range api.MaxLiterals - 1 {
		c = append(c, no(f(2, v(n+1)), v(n+1)))
	}
	return c
}

func TestJ2Errors(t *testing.T) {
	two := parse("f2(X1) = X1", "f2(f0) != f0")
	wrong := []api.Clause{{no(v(1001), f(0))}}
	some := []api.Inference{{}, {}}
	for _, c := range []struct {
		name string
		l    []api.Clause
		a    api.Answer
		want api.Errno
	}{
		{"the list", wrong, api.Answer{}, api.ErrRange},
		{"the list, ahead of the set", wrong, saturatedBy(make([]api.Clause, 17)...), api.ErrRange},
		{"too many clauses", make([]api.Clause, 61), refutedBy(), api.ErrMany},
		{"too many clauses, and a verdict", make([]api.Clause, 61), api.Answer{Verdict: 9}, api.ErrMany},
		{"verdict 0", two, api.Answer{}, api.ErrKind},
		{"verdict 4", two, api.Answer{Verdict: 4, Proof: some, Set: make([]api.Clause, 17)}, api.ErrKind},
		{"a verdict below", nil, api.Answer{Verdict: -1 << 63}, api.ErrKind},
		{"too great a set", two, saturatedBy(make([]api.Clause, 17)...), api.ErrMany},
		{"too great a set, ahead of what is in it", two, saturatedBy(append(make([]api.Clause, 16), wrong...)...), api.ErrMany},
		{"a set that is wrong", two, saturatedBy(append(make([]api.Clause, 15), wrong...)...), api.ErrRange},
		{"and a proof", two, with(saturatedBy(wrong...), some, nil), api.ErrRange},
		{"too many literals of a set", two, saturatedBy(nil, make(api.Clause, 9)), api.ErrMany},
		{"no such function of a set", two, saturatedBy(api.Clause{no(f(9), holder())}), api.ErrNone},
		{"a term of a set that holds itself", two, saturatedBy(api.Clause{no(f(0), holder())}), api.ErrMany},
	} {
		if is, e := Is(small(), c.l, c.a); is || e != c.want {
			t.Errorf("%s: %v %d, not %d", c.name, is, e, c.want)
		}
	}
	for _, g := range []api.Signature{{Arity: []int{4}}, {Arity: []int{-1}}} {
		if is, e := Is(g, make([]api.Clause, 61), api.Answer{}); is || e != api.ErrRange {
			t.Errorf("the signature: %v %d", is, e)
		}
	}
}

// each place of a term.
func each(x api.Term, here []int, do func(place []int)) {
	do(here)
	for n, a := range x.Args {
		each(a, append(slices.Clone(here), n), do)
	}
}

// tried: all inferences of a list that there might be, by literals and places alone.
func tried(l []api.Clause, do func(i api.Inference)) {
	for left, c := range l {
		for at := range c {
			do(api.Inference{Kind: api.InferSame, Left: left, LeftAt: at})
			for turned := range 4 {
				i := api.Inference{Left: left, LeftAt: at, LeftTurned: turned%2 > 0, RightTurned: turned > 1}
				for i.RightAt = range c {
					i.Kind, i.Right, i.Place = api.InferFactor, 0, nil
					do(i)
				}
				i.Kind = api.InferPut
				for i.Right = range l {
					for i.RightAt = range l[i.Right] {
						u := l[i.Right][i.RightAt].A
						if i.RightTurned {
							u = l[i.Right][i.RightAt].B
						}
						each(u, nil, func(place []int) {
							i.Place = place
							do(i)
						})
					}
				}
			}
		}
	}
}

// plainSaid: is a clause Always, or does one of a set subsume it?
func plainSaid(t *testing.T, set []api.Clause, c api.Clause) bool {
	is, e := clause.Always(small(), c)
	for _, d := range set {
		by, h := clause.Subsumes(small(), d, c)
		if e != api.OK || h != api.OK {
			t.Fatalf("%q: %d %d", write(set), e, h)
		}
		is = is || by
	}
	return is
}

// plainIs: may an answer be? By J2's words, one behind the other.
func plainIs(t *testing.T, l []api.Clause, a api.Answer) bool {
	switch a.Verdict {
	case api.VerdictRefuted:
		is, e := proof.Check(small(), l, a.Proof)
		return len(a.Set) == 0 && (is && e == api.OK || len(a.Proof) == 0 && slices.ContainsFunc(l, func(c api.Clause) bool { return len(c) == 0 }))
	case api.VerdictUnknown:
		return len(a.Proof) == 0 && len(a.Set) == 0
	}
	is := len(a.Proof) == 0
	for _, c := range a.Set {
		is = is && len(c) > 0
	}
	for _, c := range l {
		is = is && plainSaid(t, a.Set, c)
	}
	tried(a.Set, func(i api.Inference) {
		if !is {
			return
		}
		c, e := infer.Infer(small(), a.Set, i)
		is = e != api.ErrMany && (e != api.OK || plainSaid(t, a.Set, c))
	})
	return is
}

// changed: a set with something else about it.
func changed(d *draw, set []api.Clause) []api.Clause {
	set = slices.Clone(set)
	n := d.n(len(set) + 1)
	switch d.n(8) {
	case 0:
		if n < len(set) {
			return slices.Delete(set, n, n+1)
		}
	case 1:
		return slices.Insert(set, n, drawn(d, 1, 2)...)
	case 2:
		if n < len(set) && len(set[n]) < api.MaxLiterals {
			set[n] = append(slices.Clone(set[n]), drawn(d, 1, 1)[0]...)
		}
	case 3:
		if n < len(set) {
			return append(set, set[n])
		}
	case 4:
		if n < len(set) && 2*len(set[n]) <= api.MaxLiterals {
			set[n] = twice(set[n], d.n(2)*2)
		}
	case 5, 6:
		// Variables whose numbers, or terms whose sizes, may be too much once they meet.
		great := []api.Term{tower(52+d.n(8), v(1)), v(495 + d.n(8)), v(994 + d.n(5))}[d.n(3)]
		return slices.Insert(set, n, api.Clause{{Yes: d.n(2) > 0, A: f(3, great, v(2)), B: f(d.n(2))}})
	}
	return set
}

func TestJ2SaysWhatTheWordsSay(t *testing.T) {
	d, count := new(draw), map[bool]int{}
	for n := range 600 {
		l := drawn(d, 1+d.n(4), 1+n%3)
		set := found(t, l, 6).Set
		for _, set := range [][]api.Clause{l, set, changed(d, set), changed(d, set), changed(d, changed(d, set))} {
			a := saturatedBy(set[:min(len(set), api.MaxSet)]...)
			is, e := Is(small(), l, a)
			if e != api.OK || is != plainIs(t, l, a) {
				t.Errorf("%q, %q: %v %d", write(l), write(a.Set), is, e)
			}
			count[is]++
		}
	}
	if count[true] < 300 || count[false] < 300 {
		t.Errorf("too few of a sort: %v", count)
	}
}
