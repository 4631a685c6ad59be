package promises

import (
	"slices"
	"testing"

	"superpose/api"
	"superpose/clause"
	"superpose/infer"
	"superpose/model"
	"superpose/order"
	"superpose/proof"
	"superpose/rewrite"
	"superpose/search"
	"superpose/subst"
	"superpose/text"
)

// small: two things, a function of one, one of two.
func small() api.Signature { return api.Signature{Arity: []int{0, 0, 1, 2}} }

// draw: numbers that are the same each time.
type draw uint64

func (d *draw) n(n int) int {
	*d = *d*6364136223846793005 + 1442695040888963407
	return int(uint64(*d) >> 33 % uint64(n))
}

// term of at most so many parts in one another.
func (d *draw) term(deep int) api.Term {
	if deep == 1 || d.n(3) == 0 {
		return []api.Term{v(1), v(2), v(3), {}, {Fn: 1}}[d.n(5)]
	}
	if d.n(2) == 0 {
		return api.Term{Fn: 2, Args: []api.Term{d.term(deep - 1)}}
	}
	return api.Term{Fn: 3, Args: []api.Term{d.term(deep - 1), d.term(deep - 1)}}
}

// clause of one literal, or two.
func (d *draw) clause() api.Clause {
	var c api.Clause
	for range 1 + d.n(2) {
		c = append(c, api.Literal{Yes: d.n(2) > 0, A: d.term(2), B: d.term(2)})
	}
	return c
}

// bindings of three variables.
func (d *draw) bindings() []api.Binding {
	return []api.Binding{{Var: 1, To: d.term(2)}, {Var: 2, To: d.term(2)}, {Var: 3, To: d.term(2)}}
}

// put in what variables are bound to.
func put(t *testing.T, b []api.Binding, x api.Term) api.Term {
	t.Helper()
	made, e := subst.Apply(small(), b, x)
	if e != api.OK {
		t.Fatalf("%v %v: %d", b, x, e)
	}
	return made
}

func told(t *testing.T, x api.Term) string {
	t.Helper()
	s, e := text.Term(small(), x)
	if e != api.OK {
		t.Fatalf("%v: %d", x, e)
	}
	return s
}

func toldClause(t *testing.T, c api.Clause) string {
	t.Helper()
	s, e := text.Clause(small(), c)
	if e != api.OK {
		t.Fatalf("%v: %d", c, e)
	}
	return s
}

func TestWholeWhatIsWrittenIsReadAndNothingElse(t *testing.T) {
	d, read := new(draw), 0
	for range 3000 {
		s := toldClause(t, d.clause())
		for range 5 {
			c, e := text.ParseClause(small(), s)
			if e == api.OK {
				read++
			}
			if e == api.OK && toldClause(t, c) != s {
				t.Errorf("%q is read as %q", s, toldClause(t, c))
			}
			// The next time it is another text.
			b := []byte(s)
			b[d.n(len(b))] = "Xf0123(), |=!"[d.n(13)]
			s = string(b)
		}
	}
	if read < 3300 || read > 12000 {
		t.Errorf("%d are read", read)
	}
}

func TestWholeUnified(t *testing.T) {
	d, same := new(draw), 0
	for range 20000 {
		x, y := d.term(3), d.term(3)
		u, ok, e := subst.Unify(small(), x, y)
		if e != api.OK {
			t.Fatalf("%v %v: %d", x, y, e)
		}
		if ok && told(t, put(t, u, x)) != told(t, put(t, u, y)) {
			t.Errorf("%s and %s are not the same", told(t, x), told(t, y))
		}
		w := d.bindings()
		if told(t, put(t, w, x)) != told(t, put(t, w, y)) {
			continue
		}
		same++
		for _, z := range []api.Term{x, y, v(1), v(2), v(3)} {
			if !ok || told(t, put(t, w, put(t, u, z))) != told(t, put(t, w, z)) {
				t.Errorf("%s and %s: %v is not made of %v", told(t, x), told(t, y), w, u)
			}
		}
	}
	if same < 300 {
		t.Errorf("only %d", same)
	}
}

func TestWholeOrderAndRewriting(t *testing.T) {
	d, steps := new(draw), 0
	for range 12000 {
		x, y, w := d.term(3), d.term(3), d.bindings()
		is, _ := order.Compare(small(), x, y)
		if put, _ := order.Compare(small(), put(t, w, x), put(t, w, y)); is != 0 && put != is {
			t.Errorf("%s and %s: %d, then %d", told(t, x), told(t, y), is, put)
		}
		if is <= 0 {
			continue
		}
		rules, z := []api.Rule{{From: x, To: y}}, d.term(4)
		for {
			next, ok, e := rewrite.Step(small(), rules, z)
			if !ok || e != api.OK {
				break
			}
			steps++
			if less, _ := order.Compare(small(), next, z); less != -1 {
				t.Errorf("%s by %s to %s is %s, which is not less", told(t, z), told(t, x), told(t, y), told(t, next))
			}
			z = next
		}
	}
	if steps < 300 {
		t.Errorf("only %d steps", steps)
	}
}

// models of one and of two things, all of them.
func models() []api.Model {
	l := []api.Model{{Size: 1, Tables: [][]int{{0}, {0}, {0}, {0}}}}
	for n := range 256 {
		bit := func(i int) int { return n >> i & 1 }
		l = append(l, api.Model{Size: 2, Tables: [][]int{{bit(0)}, {bit(1)}, {bit(2), bit(3)}, {bit(4), bit(5), bit(6), bit(7)}}})
	}
	return l
}

// holds: in which models do all clauses of a list?
func holds(t *testing.T, l ...api.Clause) []bool {
	t.Helper()
	var list []bool
	for _, m := range models() {
		list = append(list, !slices.ContainsFunc(l, func(c api.Clause) bool {
			is, e := model.Holds(small(), m, c)
			if e != api.OK {
				t.Fatalf("%v: %d", c, e)
			}
			return !is
		}))
	}
	return list
}

// follows: does a clause hold where others do?
func follows(t *testing.T, where []bool, c api.Clause) bool {
	t.Helper()
	for n, is := range holds(t, c) {
		if where[n] && !is {
			return false
		}
	}
	return true
}

func TestWholeWhatIsSubsumedHolds(t *testing.T) {
	d, subsumed := new(draw), 0
	for range 4000 {
		c, e := d.clause(), d.clause()
		if is, _ := clause.Subsumes(small(), c, e); !is {
			continue
		}
		subsumed++
		if !follows(t, holds(t, c), e) {
			t.Errorf("%s, %s", toldClause(t, c), toldClause(t, e))
		}
	}
	if subsumed < 50 {
		t.Errorf("only %d", subsumed)
	}
}

func TestWholeWhatIsInferredHolds(t *testing.T) {
	d, came := new(draw), 0
	for range 150 {
		l := []api.Clause{d.clause(), d.clause()}
		where := holds(t, l...)
		for _, c := range [][2]int{{0, -1}, {1, -1}, {0, 1}, {1, 0}} {
			all, e := infer.All(small(), l, c[0], c[1])
			if e != api.OK {
				t.Fatal(e)
			}
			for _, i := range all {
				made, e := proof.Clauses(small(), l, []api.Inference{i})
				if e != api.OK || !follows(t, where, made[2]) {
					t.Errorf("%s, %s, %v: %v %d", toldClause(t, l[0]), toldClause(t, l[1]), i, made, e)
				}
				came++
			}
		}
	}
	if came < 300 {
		t.Errorf("only %d", came)
	}
}

func TestWholeWhatIsRefutedHasNoModel(t *testing.T) {
	d, count := new(draw), map[int]int{}
	for range 300 {
		l := []api.Clause{d.clause(), d.clause(), d.clause()}
		a, e := search.Search(small(), l, 8)
		if is, h := search.Is(small(), l, a); !is || e != api.OK || h != api.OK {
			t.Errorf("%v: %v %d, %v %d", l, a, e, is, h)
		}
		if a.Verdict == api.VerdictRefuted && slices.Contains(holds(t, l...), true) {
			t.Errorf("%v: refuted, and has a model", l)
		}
		count[a.Verdict]++
	}
	if count[api.VerdictRefuted] < 30 || count[api.VerdictSaturated] < 30 {
		t.Errorf("too few of a sort: %v", count)
	}
}

func TestWholeOfSimpleListsTheSearchAlwaysKnows(t *testing.T) {
	d, g := new(draw), api.Signature{Arity: make([]int, 6)}
	for range 3000 {
		l := make([]api.Clause, d.n(5))
		for n := range l {
			l[n] = api.Clause{{Yes: d.n(3) > 0, A: api.Term{Fn: d.n(6)}, B: api.Term{Fn: d.n(6)}}}
		}
		a, e := search.Search(g, l, api.MaxFuel)
		if is, h := search.Is(g, l, a); !is || e != api.OK || h != api.OK || a.Verdict == api.VerdictUnknown {
			t.Errorf("%v: %v %d, %v %d", l, a, e, is, h)
		}
	}
}
