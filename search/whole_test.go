package search

import (
	"slices"
	"testing"

	"superpose/api"
	"superpose/model"
)

// models of one and of two things, all of them, and some of three.
func models() []api.Model {
	l := []api.Model{{Size: 1, Tables: [][]int{{0}, {0}, {0}, {0}}}}
	for n := range 256 {
		bit := func(i int) int { return n >> i & 1 }
		l = append(l, api.Model{Size: 2, Tables: [][]int{{bit(0)}, {bit(1)}, {bit(2), bit(3)}, {bit(4), bit(5), bit(6), bit(7)}}})
	}
	d := new(draw)
	for range 100 {
		m := api.Model{Size: 3, Tables: [][]int{{d.n(3)}, {d.n(3)}, {d.n(3), d.n(3), d.n(3)}, {}}}
		for range 9 {
			m.Tables[3] = append(m.Tables[3], d.n(3))
		}
		l = append(l, m)
	}
	return l
}

// hasModel: do all clauses of a list hold in one of the models?
func hasModel(t *testing.T, models []api.Model, l []api.Clause) bool {
	return slices.ContainsFunc(models, func(m api.Model) bool {
		return !slices.ContainsFunc(l, func(c api.Clause) bool {
			is, e := model.Holds(small(), m, c)
			if e != api.OK {
				t.Fatalf("%q: %d", write(l), e)
			}
			return !is
		})
	})
}

func TestJ3WhatIsRefutedHasNoModel(t *testing.T) {
	all, d, refuted, held := models(), new(draw), 0, 0
	for n := range 600 {
		l := drawn(d, 1+d.n(5), 1+n%3)
		a, has := found(t, l, 6), hasModel(t, all, l)
		if a.Verdict == api.VerdictRefuted {
			refuted++
		}
		if has {
			held++
		}
		if has && a.Verdict == api.VerdictRefuted {
			t.Errorf("%q: refuted, and has a model", write(l))
		}
	}
	if refuted < 100 || held < 100 {
		t.Errorf("only %d refuted, %d with a model", refuted, held)
	}
}

func TestJ3WhatIsLetBeRefutedHasNoModel(t *testing.T) {
	all, d, let := models(), new(draw), 0
	for range 600 {
		l := drawn(d, 1+d.n(2), 2)
		p := found(t, l, 6).Proof
		// A proof of one list, tried on another one.
		other := append(drawn(d, 1, 2), l[1:]...)
		is, e := Is(small(), other, refutedBy(p...))
		if e != api.OK {
			t.Fatalf("%q: %d", write(other), e)
		}
		if is {
			let++
		}
		if is && hasModel(t, all, other) {
			t.Errorf("%q %v: refuted, and has a model", write(other), p)
		}
	}
	if let < 20 {
		t.Errorf("only %d", let)
	}
}

// twice: each literal of a clause twice, its variables more by so many the second time.
func twice(c api.Clause, more int) api.Clause {
	made := slices.Clone(c)
	for _, l := range c {
		made = append(made, api.Literal{Yes: l.Yes, A: raised(l.A, more), B: raised(l.B, more)})
	}
	return made
}

func raised(x api.Term, more int) api.Term {
	if x.Var != 0 {
		return v(x.Var + more)
	}
	made := f(x.Fn)
	for _, a := range x.Args {
		made.Args = append(made.Args, raised(a, more))
	}
	return made
}

func TestWhatIsSaturatedIsNotRefuted(t *testing.T) {
	d, count := new(draw), map[int]int{}
	for range 400 {
		l := drawn(d, 1+d.n(4), 2)
		if found(t, l, 6).Verdict != api.VerdictRefuted {
			continue
		}
		// It says the same, but each clause subsumes much of what comes of it: Is lets some of such be.
		for _, more := range []int{0, 2} {
			var again []api.Clause
			for _, c := range l {
				again = append(again, twice(c, more))
			}
			a := found(t, again, 8)
			if a.Verdict == api.VerdictSaturated {
				t.Errorf("%q: saturated, %q", write(again), write(a.Set))
			}
			count[a.Verdict]++
		}
	}
	if count[api.VerdictRefuted] < 200 {
		t.Errorf("too few of a sort: %v", count)
	}
}

// great lists, of the greatest terms, or of as many literals as may be.
func great() [][]api.Clause {
	var towers, vars, rows []api.Clause
	for n := range api.MaxClauses {
		var tower8, vars8, row8 api.Clause
		for k := range api.MaxLiterals {
			tower8 = append(tower8, api.Literal{Yes: k < 4, A: tower(119-k, f(0)), B: tower(119-n, f(1))})
			vars8 = append(vars8, api.Literal{Yes: k%2 > 0, A: v(k + 1), B: tower(119-n-k, v(k+2))})
			row8 = append(row8, api.Literal{Yes: k > 0, A: f(3, v(k+1), v(k+2)), B: v((n+k)%9 + 1)})
		}
		towers, vars, rows = append(towers, tower8), append(vars, vars8), append(rows, row8)
	}
	return [][]api.Clause{towers, vars, rows, slices.Repeat([]api.Clause{slices.Repeat(api.Clause{yes(v(1), v(2))}, 8)}, 60), slices.Repeat([]api.Clause{slices.Repeat(api.Clause{no(tower(119, f(0)), tower(119, f(1)))}, 8)}, 60)}
}

func TestP1GreatListsEndSoon(t *testing.T) {
	for n, l := range great() {
		for _, k := range []int{2, api.MaxSet, api.MaxClauses} {
			found(t, l[:k], api.MaxFuel)
			if _, e := Is(small(), l, saturatedBy(l[:min(k, api.MaxSet)]...)); e != api.OK {
				t.Errorf("%d %d: %d", n, k, e)
			}
		}
	}
}

func TestP1GreatSetsEndSoon(t *testing.T) {
	all := parse("X1 = X2")
	for n := range api.MaxSet - 1 {
		all = append(all, slices.Repeat(api.Clause{yes(tower(119-n%2, f(0)), tower(119, f(1)))}, api.MaxLiterals))
	}
	for _, set := range [][]api.Clause{all, all[:1], all[1:2]} {
		if is, e := Is(small(), all[1:2], saturatedBy(set...)); !is || e != api.OK {
			t.Errorf("%d: %v %d", len(set), is, e)
		}
	}
}
