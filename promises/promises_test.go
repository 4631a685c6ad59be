// Package promises: tests of P1 to P4, which hold for all packages alike, and of what the whole promises.
package promises

import (
	"fmt"
	"slices"
	"testing"

	"superpose/api"
	"superpose/clause"
	"superpose/infer"
	"superpose/model"
	"superpose/order"
	"superpose/proof"
	"superpose/rewrite"
	"superpose/search"
	"superpose/subst"
	"superpose/term"
	"superpose/text"
)

func v(n int) api.Term { return api.Term{Var: n} }

// f has spare room behind its arguments, with something in it that nobody may touch.
func f(n int, args ...api.Term) api.Term {
	roomy := append(append([]api.Term{}, args...), v(501), v(502))
	return api.Term{Fn: n, Args: roomy[:len(args)]}
}

// given: all that is handed to a call.
type given struct {
	g     api.Signature
	t, u  api.Term
	p     api.Term // a pattern, of which t is one
	place []int
	c     api.Clause
	s     string
	b     []api.Binding
	rules []api.Rule   // by which t is made something else
	d     api.Clause   // which c subsumes
	l     []api.Clause // clauses
	m     api.Model
	vars  []int           // things
	i     []api.Inference // of clauses of l, of each kind one
	no    []api.Clause    // clauses that are refuted
	ok    []api.Clause    // clauses that are not
	a     []api.Answer    // of no, and twice of ok
}

func signature() api.Signature {
	arity := []int{0, 0, 1, 2, 3, 99, 98}
	return api.Signature{Arity: arity[:5]}
}

// right: what calls take.
func right() given {
	shared := f(2, v(3))
	literals := api.Clause{{Yes: true, A: f(3, shared, shared), B: shared}, {A: f(0), B: v(2)}, {A: v(601)}}
	more := api.Clause{{A: f(1), B: f(0)}, {Yes: true, A: shared, B: shared}, {Yes: true, A: shared, B: f(3, shared, shared)}, {B: v(605)}}
	two := api.Clause{{Yes: true, A: shared, B: f(0)}, {A: shared, B: v(4)}, {Yes: true, A: v(4), B: shared}, {A: v(609)}}
	list := []api.Clause{literals[:2], more[:3], literals[:1], two[:3], nil, {{A: v(606)}}}
	rules := []api.Rule{{From: f(4, v(3), v(1), v(3)), To: f(3, f(3, v(3), v(1)), f(3, v(3), v(1)))}, {From: f(3, shared, v(4)), To: shared}, {From: v(607), To: v(608)}}
	place := []int{1, 0, 77, 78}
	inner := []int{0, 79, 80}
	inferences := []api.Inference{{Kind: api.InferSame, LeftAt: 1}, {Kind: api.InferFactor, Left: 3, RightAt: 2, RightTurned: true}, {Kind: api.InferPut, Left: 3, Right: 2, Place: inner[:1]}, {Kind: 99}}
	bindings := []api.Binding{{Var: 1, To: shared}, {Var: 3, To: f(3, shared, v(1))}, {Var: 603, To: v(604)}}
	return given{
		g:     signature(),
		t:     f(3, f(0), f(2, f(4, shared, v(1), shared))),
		u:     f(3, shared, shared),
		p:     f(3, v(7), f(2, f(4, v(6), v(5), v(6)))),
		place: place[:2],
		c:     literals[:2],
		s:     "f2(X1) = f3(X2,f0) | f0 != f4(X1,f1,f2(X2))",
		b:     bindings[:2],
		rules: rules[:2],
		d:     more[:3],
		l:     list[:5],
		m:     things(),
		vars:  []int{0, 1, 1, 76, 75}[:3],
		i:     inferences[:3],
		no:    refuted(),
		ok:    saturated(),
		a:     answers(),
	}
}

// refuted: clauses of which the empty clause comes, by more than one inference.
func refuted() []api.Clause {
	shared := f(2, v(3))
	one := api.Clause{{Yes: true, A: f(2, shared), B: v(3)}, {A: v(610)}}
	two := api.Clause{{A: f(3, f(2, shared), v(3)), B: f(3, v(3), f(0))}, {A: shared, B: shared}, {A: v(611)}}
	three := api.Clause{{Yes: true, A: f(3, v(3), v(3)), B: f(3, v(3), f(0))}, {A: v(612)}}
	list := []api.Clause{one[:1], two[:2], three[:1], {{A: v(613)}}}
	return list[:3]
}

// saturated: clauses of which something comes, but not without end.
func saturated() []api.Clause {
	shared := f(2, v(3))
	one := api.Clause{{Yes: true, A: shared, B: f(0)}, {A: v(614)}}
	two := api.Clause{{A: f(3, shared, f(1)), B: shared}, {A: v(615)}}
	// What is not tidied is in the set as it stands.
	three := api.Clause{{A: f(2, f(1)), B: f(3, f(1), f(0))}, {A: f(2, f(1)), B: f(3, f(1), f(0))}, {A: v(619)}}
	list := []api.Clause{one[:1], two[:1], three[:2], {{A: v(616)}}}
	return list[:3]
}

// answers of both, and one that is unknown, with room behind their lists.
func answers() []api.Answer {
	var list []api.Answer
	no, _ := search.Search(signature(), refuted(), api.MaxFuel)
	ok, _ := search.Search(signature(), saturated(), api.MaxFuel)
	no.Proof = append(no.Proof, api.Inference{Kind: 98}, api.Inference{Kind: 97})[:len(no.Proof)]
	ok.Set = append(ok.Set, api.Clause{{A: v(617)}}, api.Clause{{A: v(618)}})[:len(ok.Set)]
	list = append(list, no, ok, api.Answer{Verdict: api.VerdictUnknown}, api.Answer{Verdict: 96})
	return list[:3]
}

// things: a model of two, of which each function makes the first one, or of that the other one.
func things() api.Model {
	tables := [][]int{}
	for _, n := range []int{1, 1, 2, 4, 8} {
		table := make([]int, n, n+2)
		table[n-1], table[:n+1][n] = 1, 74
		tables = append(tables, table)
	}
	tables = append(tables, []int{73})
	return api.Model{Size: 2, Tables: tables[:5]}
}

// wrong: what none of them takes, of all sorts; terms that hold themselves among them.
func wrong() []given {
	loop := make([]api.Term, 2)
	loop[0], loop[1] = v(1), api.Term{Fn: 3, Args: loop}
	deep, wide := f(0), make([]api.Term, 1<<18)
	for range 60000 {
		deep = api.Term{Fn: 2, Args: []api.Term{deep}}
	}
	var l []given
	for _, x := range []api.Term{loop[1], deep, {Args: wide}, {Var: 1, Args: wide}, {Var: -1 << 63, Fn: 1<<63 - 1}, {Fn: -1 << 63}, {Fn: 1<<63 - 1}, f(2), f(0, f(0)), v(1001)} {
		both := given{g: signature(), t: x, u: x, p: x, c: api.Clause{{A: x, B: x}}, s: "f9 = f9", b: []api.Binding{{Var: 1, To: x}}, rules: []api.Rule{{From: x, To: x}}}
		both.d, both.l = both.c, []api.Clause{both.c}
		both.m, both.vars, both.i = api.Model{Size: -1 << 63}, []int{1<<63 - 1}, []api.Inference{{}, {}, {}}
		both.no, both.ok, both.a = both.l, both.l, make([]api.Answer, 3)
		last := right()
		last.m.Tables[4][7], last.vars[2] = 1<<63-1, -1<<63
		last.t, last.place, last.c, last.s, last.b[1].To = x, []int{-1 << 63}, api.Clause{{Yes: true, A: v(1), B: x}}, "\xff", x
		last.rules[1].To, last.l[4], last.no[2], last.ok[1] = x, last.c, last.c, last.c
		l = append(l, both, last)
	}
	for _, g := range []api.Signature{{Arity: []int{4}}, {Arity: []int{-1 << 63}}, {Arity: make([]int, 1<<18)}} {
		x := right()
		x.g = g
		l = append(l, x)
	}
	return l
}

// call: a call of the program: the lists that it answers, all of it as a text, whether all but the error is zero, and the error.
type call struct {
	name string
	do   func(x given) (lists []any, told string, zero bool, e api.Errno)
}

func zeroTerm(t api.Term) bool { return t.Var == 0 && t.Fn == 0 && len(t.Args) == 0 }

func calls() []call { return slices.Concat(firstCalls(), laterCalls(), lastCalls(), searchCalls()) }

// firstCalls: those of the layers of terms.
func firstCalls() []call {
	return []call{
		{"term.Signature", func(x given) ([]any, string, bool, api.Errno) {
			return nil, "", true, term.Signature(x.g)
		}},
		{"term.Check", func(x given) ([]any, string, bool, api.Errno) {
			return nil, "", true, term.Check(x.g, x.t)
		}},
		{"term.Size", func(x given) ([]any, string, bool, api.Errno) {
			n, e := term.Size(x.g, x.t)
			return nil, fmt.Sprint(n), n == 0, e
		}},
		{"term.Vars", func(x given) ([]any, string, bool, api.Errno) {
			l, e := term.Vars(x.g, x.t)
			return []any{l}, fmt.Sprint(l), len(l) == 0, e
		}},
		{"term.At", func(x given) ([]any, string, bool, api.Errno) {
			y, e := term.At(x.g, x.t, x.place)
			return []any{y}, fmt.Sprint(y), zeroTerm(y), e
		}},
		{"term.Put", func(x given) ([]any, string, bool, api.Errno) {
			y, e := term.Put(x.g, x.t, x.place, x.u)
			return []any{y}, fmt.Sprint(y), zeroTerm(y), e
		}},
		{"term.Put at none", func(x given) ([]any, string, bool, api.Errno) {
			y, e := term.Put(x.g, x.t, nil, x.u)
			return []any{y}, fmt.Sprint(y), zeroTerm(y), e
		}},
		{"text.Term", func(x given) ([]any, string, bool, api.Errno) {
			s, e := text.Term(x.g, x.t)
			return nil, s, s == "", e
		}},
		{"text.Clause", func(x given) ([]any, string, bool, api.Errno) {
			s, e := text.Clause(x.g, x.c)
			return nil, s, s == "", e
		}},
		{"text.ParseTerm", func(x given) ([]any, string, bool, api.Errno) {
			s, _ := text.Term(x.g, x.t)
			y, e := text.ParseTerm(x.g, s)
			return []any{y}, fmt.Sprint(y), zeroTerm(y), e
		}},
		{"text.ParseClause", func(x given) ([]any, string, bool, api.Errno) {
			c, e := text.ParseClause(x.g, x.s)
			return []any{c}, fmt.Sprint(c), len(c) == 0, e
		}},
		{"subst.Apply", func(x given) ([]any, string, bool, api.Errno) {
			y, e := subst.Apply(x.g, x.b, x.t)
			return []any{y}, fmt.Sprint(y), zeroTerm(y), e
		}},
		{"subst.Match", func(x given) ([]any, string, bool, api.Errno) {
			b, ok, e := subst.Match(x.g, x.p, x.t)
			return []any{b}, fmt.Sprint(b), len(b) == 0 && !ok, e
		}},
		{"subst.Unify", func(x given) ([]any, string, bool, api.Errno) {
			b, ok, e := subst.Unify(x.g, x.p, x.t)
			return []any{b}, fmt.Sprint(b), len(b) == 0 && !ok, e
		}},
		{"order.Greater", func(x given) ([]any, string, bool, api.Errno) {
			is, e := order.Greater(x.g, x.u, x.t)
			return nil, fmt.Sprint(is), !is, e
		}},
		{"order.Compare", func(x given) ([]any, string, bool, api.Errno) {
			n, e := order.Compare(x.g, x.u, x.t)
			return nil, fmt.Sprint(n), n == 0, e
		}},
	}
}

// laterCalls: those of the layers of rules and clauses.
func laterCalls() []call {
	return []call{
		{"rewrite.Check", func(x given) ([]any, string, bool, api.Errno) {
			return nil, "", true, rewrite.Check(x.g, x.rules)
		}},
		{"rewrite.Step", func(x given) ([]any, string, bool, api.Errno) {
			y, ok, e := rewrite.Step(x.g, x.rules, x.t)
			return []any{y}, fmt.Sprint(y), zeroTerm(y) && !ok, e
		}},
		{"rewrite.Step of none", func(x given) ([]any, string, bool, api.Errno) {
			y, ok, e := rewrite.Step(x.g, nil, x.t)
			return []any{y}, fmt.Sprint(y), zeroTerm(y) && !ok, e
		}},
		{"rewrite.Normal", func(x given) ([]any, string, bool, api.Errno) {
			y, n, e := rewrite.Normal(x.g, x.rules, x.t)
			return []any{y}, fmt.Sprint(y), zeroTerm(y) && n == 0, e
		}},
		{"rewrite.Normal of none", func(x given) ([]any, string, bool, api.Errno) {
			y, n, e := rewrite.Normal(x.g, nil, x.t)
			return []any{y}, fmt.Sprint(y), zeroTerm(y) && n == 0, e
		}},
		{"clause.Check", func(x given) ([]any, string, bool, api.Errno) {
			return nil, "", true, clause.Check(x.g, x.l)
		}},
		{"clause.Tidy", func(x given) ([]any, string, bool, api.Errno) {
			c, e := clause.Tidy(x.g, x.c)
			return []any{c}, fmt.Sprint(c), len(c) == 0, e
		}},
		{"clause.Always", func(x given) ([]any, string, bool, api.Errno) {
			is, e := clause.Always(x.g, x.c)
			return nil, fmt.Sprint(is), !is, e
		}},
		{"clause.Subsumes", func(x given) ([]any, string, bool, api.Errno) {
			is, e := clause.Subsumes(x.g, x.c, x.d)
			return nil, fmt.Sprint(is), !is, e
		}},
		{"clause.Subsumes turned", func(x given) ([]any, string, bool, api.Errno) {
			is, e := clause.Subsumes(x.g, x.d, x.c)
			return nil, fmt.Sprint(is), !is, e
		}},
	}
}

// lastCalls: those of the layers of models and inferences.
func lastCalls() []call {
	list := []call{
		{"model.Check", func(x given) ([]any, string, bool, api.Errno) {
			return nil, "", true, model.Check(x.g, x.m)
		}},
		{"model.Value", func(x given) ([]any, string, bool, api.Errno) {
			n, e := model.Value(x.g, x.m, x.t, x.vars)
			return nil, fmt.Sprint(n), n == 0, e
		}},
		{"model.Holds", func(x given) ([]any, string, bool, api.Errno) {
			is, e := model.Holds(x.g, x.m, x.d)
			return nil, fmt.Sprint(is), !is, e
		}},
		{"infer.All of one", func(x given) ([]any, string, bool, api.Errno) {
			l, e := infer.All(x.g, x.l, len(x.l)-2, -1)
			return []any{l}, fmt.Sprint(l), len(l) == 0, e
		}},
		{"infer.All of two", func(x given) ([]any, string, bool, api.Errno) {
			l, e := infer.All(x.g, x.l, len(x.l)-2, 0)
			return []any{l}, fmt.Sprint(l), len(l) == 0, e
		}},
	}
	for n, name := range []string{"InferSame", "InferFactor", "InferPut"} {
		list = append(list, call{"infer.Infer by " + name, func(x given) ([]any, string, bool, api.Errno) {
			c, e := infer.Infer(x.g, x.l, x.i[n])
			return []any{c}, fmt.Sprint(c), len(c) == 0, e
		}})
	}
	return list
}

// searchCalls: those of the layers of proofs and searches.
func searchCalls() []call {
	list := []call{
		{"proof.Clauses", func(x given) ([]any, string, bool, api.Errno) {
			l, e := proof.Clauses(x.g, x.no, x.a[0].Proof)
			return []any{l}, fmt.Sprint(l), len(l) == 0, e
		}},
		{"proof.Clauses of none", func(x given) ([]any, string, bool, api.Errno) {
			l, e := proof.Clauses(x.g, x.l, nil)
			return []any{l}, fmt.Sprint(l), len(l) == 0, e
		}},
		{"proof.Check", func(x given) ([]any, string, bool, api.Errno) {
			is, e := proof.Check(x.g, x.no, x.a[0].Proof)
			return nil, fmt.Sprint(is), !is, e
		}},
	}
	for n, name := range []string{"refuted", "saturated", "unknown"} {
		of := func(x given) []api.Clause { return [][]api.Clause{x.no, x.ok, x.ok}[n] }
		fuel := []int{api.MaxFuel, api.MaxFuel, 0}[n]
		list = append(list, call{"search.Search " + name, func(x given) ([]any, string, bool, api.Errno) {
			a, e := search.Search(x.g, of(x), fuel)
			return []any{a.Proof, a.Set}, fmt.Sprint(a.Proof, a.Set), a.Verdict == 0 && len(a.Proof)+len(a.Set) == 0, e
		}}, call{"search.Is " + name, func(x given) ([]any, string, bool, api.Errno) {
			is, e := search.Is(x.g, of(x), x.a[n])
			return nil, fmt.Sprint(is), !is, e
		}})
	}
	return list
}

// The other tests are of these answers: so they must be more than nothing.
func TestAnswersAreOfEachSort(t *testing.T) {
	x := right()
	if a := x.a[0]; a.Verdict != api.VerdictRefuted || len(a.Proof) < 2 || !slices.ContainsFunc(a.Proof, func(i api.Inference) bool { return len(i.Place) > 0 }) {
		t.Errorf("%v", a)
	}
	if a := x.a[1]; a.Verdict != api.VerdictSaturated || len(a.Set) <= len(x.ok) {
		t.Errorf("%v", a)
	}
	if a, _ := search.Search(x.g, x.ok, 0); a.Verdict != api.VerdictUnknown {
		t.Errorf("%v", a)
	}
	for n, l := range [][]api.Clause{x.no, x.ok, x.ok} {
		if is, e := search.Is(x.g, l, x.a[n]); !is || e != api.OK {
			t.Errorf("%d: %v %d", n, is, e)
		}
	}
}

func TestP1EndsWithoutPanicAndZero(t *testing.T) {
	for i, x := range wrong() {
		for _, c := range calls() {
			_, _, zero, e := c.do(x)
			if e != api.OK && !zero {
				t.Errorf("%s %d: something with error %d", c.name, i, e)
			}
			if e == api.OK && c.name != "term.Signature" {
				t.Errorf("%s %d: no error", c.name, i)
			}
		}
	}
}

// shown: all of what is handed in, the room behind lists, too.
func shown(x given) string {
	s := fmt.Sprint(x.g.Arity[:cap(x.g.Arity)], x.place[:cap(x.place)], x.s)
	s += room(x.t) + room(x.u) + room(x.p)
	for _, y := range x.b[:cap(x.b)] {
		s += fmt.Sprint(y.Var) + room(y.To)
	}
	for _, r := range x.rules[:cap(x.rules)] {
		s += room(r.From) + room(r.To)
	}
	s += fmt.Sprint(x.m.Size, x.vars[:cap(x.vars)])
	for _, table := range x.m.Tables[:cap(x.m.Tables)] {
		s += fmt.Sprint(table[:cap(table)])
	}
	s += roomOfProof(x.i)
	for _, a := range x.a[:cap(x.a)] {
		s += fmt.Sprint(a.Verdict) + roomOfProof(a.Proof) + roomOfList(a.Set)
	}
	return s + roomOfList([]api.Clause{x.c, x.d}) + roomOfList(x.l) + roomOfList(x.no) + roomOfList(x.ok)
}

func roomOfProof(p []api.Inference) string {
	s := ""
	for _, i := range p[:cap(p)] {
		s += fmt.Sprint(i, i.Place[:cap(i.Place)])
	}
	return s
}

func roomOfList(list []api.Clause) string {
	s := ""
	for _, c := range list[:cap(list)] {
		for _, l := range c[:cap(c)] {
			s += fmt.Sprint(l.Yes) + room(l.A) + room(l.B)
		}
	}
	return s
}

func room(t api.Term) string {
	s := fmt.Sprint("(", t.Var, t.Fn, len(t.Args))
	for _, a := range t.Args[:cap(t.Args)] {
		s += room(a)
	}
	return s + ")"
}

func TestP2OnlyRead(t *testing.T) {
	for _, c := range calls() {
		x := right()
		was := shown(x)
		if _, _, _, e := c.do(x); e != api.OK {
			t.Errorf("%s: %d", c.name, e)
		}
		if shown(x) != was {
			t.Errorf("%s: changed what was handed in", c.name)
		}
	}
}

// spots: where the elements of all lists of a thing lie, each as often as a list has it.
func spots(x any, at func(spot any)) {
	switch y := x.(type) {
	case []int:
		for i := range y[:cap(y)] {
			at(&y[:cap(y)][i])
		}
	case api.Term:
		for i := range y.Args[:cap(y.Args)] {
			at(&y.Args[:cap(y.Args)][i])
		}
		for _, a := range y.Args {
			spots(a, at)
		}
	case api.Clause:
		for i := range y[:cap(y)] {
			at(&y[:cap(y)][i])
		}
		for _, l := range y {
			spots(l.A, at)
			spots(l.B, at)
		}
	case []api.Binding:
		for i := range y[:cap(y)] {
			at(&y[:cap(y)][i])
		}
		for _, b := range y {
			spots(b.To, at)
		}
	case []api.Rule:
		for i := range y[:cap(y)] {
			at(&y[:cap(y)][i])
		}
		for _, r := range y {
			spots(r.From, at)
			spots(r.To, at)
		}
	case []api.Clause:
		for i := range y[:cap(y)] {
			at(&y[:cap(y)][i])
		}
		for _, c := range y {
			spots(c, at)
		}
	case []api.Inference:
		for i := range y[:cap(y)] {
			at(&y[:cap(y)][i])
		}
		for _, i := range y {
			spots(i.Place, at)
		}
	case [][]int:
		for i := range y[:cap(y)] {
			at(&y[:cap(y)][i])
		}
		for _, table := range y {
			spots(table, at)
		}
	case []api.Answer:
		for i := range y[:cap(y)] {
			at(&y[:cap(y)][i])
		}
		for _, a := range y {
			spots(a.Proof, at)
			spots(a.Set, at)
		}
	}
}

// lists: all that was handed in.
func (x given) lists() []any {
	return []any{x.g.Arity, x.place, x.c, x.t, x.u, x.p, x.b, x.rules, x.d, x.l, x.m.Tables, x.vars, x.i, x.no, x.ok, x.a}
}

func TestP2NewMemory(t *testing.T) {
	for _, c := range calls() {
		x := right()
		lists, _, _, _ := c.do(x)
		seen := map[any]int{}
		for _, y := range x.lists() {
			spots(y, func(spot any) { seen[spot] = 1 })
		}
		for _, y := range lists {
			spots(y, func(spot any) {
				if seen[spot] != 0 {
					t.Errorf("%s: memory of an argument, or of two lists", c.name)
				}
				seen[spot] = 2
			})
		}
	}
}

// spoil all that lists hold, the inner ones too: so all are found ahead of the first change.
func spoil(x any) {
	var found []any
	spots(x, func(spot any) { found = append(found, spot) })
	for _, spot := range found {
		switch y := spot.(type) {
		case *int:
			*y = 1234
		case *api.Term:
			*y = v(4321)
		case *api.Literal:
			*y = api.Literal{A: v(4321)}
		case *api.Binding:
			*y = api.Binding{Var: 4321, To: v(4321)}
		case *api.Rule:
			*y = api.Rule{From: v(4321), To: v(4321)}
		case *api.Clause:
			*y = api.Clause{{A: v(4321)}}
		case *api.Inference:
			*y = api.Inference{Kind: 4321}
		case *[]int:
			*y = []int{4321}
		case *api.Answer:
			*y = api.Answer{Verdict: 4321}
		}
	}
}

func TestP2NotKept(t *testing.T) {
	for _, c := range calls() {
		x := right()
		lists, told, _, _ := c.do(x)
		for _, y := range x.lists() {
			spoil(y)
		}
		if len(lists) > 0 && fmt.Sprint(lists...) != told {
			t.Errorf("%s: a later change is seen in the answer", c.name)
		}
		for _, y := range lists {
			spoil(y)
		}
		if _, again, _, e := c.do(right()); again != told || e != api.OK {
			t.Errorf("%s: a changed answer is seen later: %s, not %s", c.name, again, told)
		}
	}
}

func TestP2EmptyListsEitherWay(t *testing.T) {
	none := api.Term{Fn: 1}
	room := api.Term{Fn: 1, Args: []api.Term{}}
	x := given{g: api.Signature{Arity: []int{0, 0}}, t: none, u: none, p: none, s: "$false"}
	y := given{g: x.g, t: room, u: room, p: room, place: []int{}, c: api.Clause{}, s: "$false", b: []api.Binding{}, rules: []api.Rule{}, d: api.Clause{}, l: []api.Clause{}}
	x.l = []api.Clause{nil, {{Yes: true, A: none}, {Yes: true, A: none}, {A: none, B: none}}, nil}
	y.l = []api.Clause{{}, {{Yes: true, A: room}, {Yes: true, A: room}, {A: room, B: room}}, {}}
	x.i = []api.Inference{{Kind: api.InferSame, Left: 1, LeftAt: 2}, {Kind: api.InferFactor, Left: 1, RightAt: 1}, {Kind: api.InferPut, Left: 1, Right: 1}}
	for _, i := range x.i {
		i.Place = []int{}
		y.i = append(y.i, i)
	}
	x.m = api.Model{Size: 1, Tables: [][]int{{0}, {0}}}
	y.m, y.vars = x.m, []int{}
	x.a = []api.Answer{{Verdict: api.VerdictRefuted}, {Verdict: api.VerdictSaturated}, {Verdict: api.VerdictUnknown}}
	for _, a := range x.a {
		a.Proof, a.Set = []api.Inference{}, []api.Clause{}
		y.a = append(y.a, a)
	}
	x.no, y.no = []api.Clause{nil}, []api.Clause{{}}
	y.ok = []api.Clause{}
	for _, c := range calls() {
		_, a, _, e := c.do(x)
		_, b, _, h := c.do(y)
		if a != b || e != h || e != api.OK {
			t.Errorf("%s: %s %d and %s %d", c.name, a, e, b, h)
		}
	}
	x.g, y.g = api.Signature{}, api.Signature{Arity: []int{}}
	if term.Check(x.g, v(1)) != api.OK || term.Check(y.g, v(1)) != api.OK || term.Check(x.g, none) != api.ErrNone {
		t.Error("a signature without functions")
	}
}

func TestP3TheSameEachTime(t *testing.T) {
	for _, c := range calls() {
		_, told, _, e := c.do(right())
		for _, x := range wrong() {
			c.do(x)
		}
		for range 20 {
			if _, again, _, h := c.do(right()); again != told || h != e {
				t.Errorf("%s: %s %d, then %s %d", c.name, told, e, again, h)
			}
		}
	}
}
