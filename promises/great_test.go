package promises

import (
	"fmt"
	"slices"
	"strings"
	"testing"

	"superpose/api"
	"superpose/clause"
	"superpose/infer"
	"superpose/model"
	"superpose/order"
	"superpose/proof"
	"superpose/rewrite"
	"superpose/search"
	"superpose/subst"
	"superpose/term"
	"superpose/text"
)

// Of what P4 lets be: as many parts nested in one another as there may be, and long lists.
const (
	deepest = 1 << 16
	longest = 1 << 20
)

// nested: a term of so many parts, each in the next one.
func nested(n int) api.Term {
	x := api.Term{}
	for range n - 1 {
		x = api.Term{Fn: 2, Args: []api.Term{x}}
	}
	return x
}

// all calls, each handed something great; what they answer by the document.
type greatCall struct {
	name string
	want api.Errno
	do   func(g api.Signature) api.Errno
}

func greatTerms() []greatCall {
	deep, few := nested(deepest), nested(2)
	place := make([]int, longest)
	return []greatCall{
		{"term.Check", api.ErrMany, func(g api.Signature) api.Errno { return term.Check(g, deep) }},
		{"term.Check of a wide one", api.ErrMany, func(g api.Signature) api.Errno {
			return term.Check(g, api.Term{Var: 1, Args: make([]api.Term, longest)})
		}},
		{"term.At", api.ErrNone, func(g api.Signature) api.Errno { _, e := term.At(g, few, place); return e }},
		{"term.Put", api.ErrNone, func(g api.Signature) api.Errno { _, e := term.Put(g, few, place, few); return e }},
		{"term.Put of a deep one", api.ErrMany, func(g api.Signature) api.Errno { _, e := term.Put(g, few, place, deep); return e }},
		{"text.Term", api.ErrMany, func(g api.Signature) api.Errno { _, e := text.Term(g, deep); return e }},
		{"text.ParseTerm", api.ErrMany, func(g api.Signature) api.Errno {
			_, e := text.ParseTerm(g, strings.Repeat("f2(", deepest)+"f0"+strings.Repeat(")", deepest))
			return e
		}},
		{"text.ParseClause", api.ErrMany, func(g api.Signature) api.Errno { _, e := text.ParseClause(g, strings.Repeat(" | ", longest)); return e }},
		{"subst.Apply", api.ErrState, func(g api.Signature) api.Errno {
			_, e := subst.Apply(g, slices.Repeat([]api.Binding{{Var: 1, To: few}}, longest), few)
			return e
		}},
		{"subst.Match", api.ErrMany, func(g api.Signature) api.Errno { _, _, e := subst.Match(g, v(1), deep); return e }},
		{"subst.Unify", api.ErrMany, func(g api.Signature) api.Errno { _, _, e := subst.Unify(g, deep, deep); return e }},
		{"order.Greater", api.ErrMany, func(g api.Signature) api.Errno { _, e := order.Greater(g, few, deep); return e }},
		{"order.Compare", api.ErrMany, func(g api.Signature) api.Errno { _, e := order.Compare(g, deep, deep); return e }},
	}
}

func greatLists() []greatCall {
	deep, few := nested(deepest), nested(2)
	literal := api.Literal{Yes: true, A: few}
	clauses, literals := make([]api.Clause, longest), slices.Repeat(api.Clause{literal}, longest)
	one, inferences := []api.Clause{{literal}}, make([]api.Inference, longest)
	things := things()
	return []greatCall{
		{"rewrite.Check", api.ErrMany, func(g api.Signature) api.Errno { return rewrite.Check(g, make([]api.Rule, longest)) }},
		{"rewrite.Normal", api.ErrMany, func(g api.Signature) api.Errno { _, _, e := rewrite.Normal(g, []api.Rule{{From: few}}, deep); return e }},
		{"clause.Check", api.ErrMany, func(g api.Signature) api.Errno { return clause.Check(g, clauses) }},
		{"clause.Tidy", api.ErrMany, func(g api.Signature) api.Errno { _, e := clause.Tidy(g, literals); return e }},
		{"clause.Always", api.ErrMany, func(g api.Signature) api.Errno { _, e := clause.Always(g, literals); return e }},
		{"clause.Subsumes", api.ErrMany, func(g api.Signature) api.Errno { _, e := clause.Subsumes(g, one[0], literals); return e }},
		{"model.Check", api.ErrForm, func(g api.Signature) api.Errno {
			return model.Check(g, api.Model{Size: 1, Tables: make([][]int, longest)})
		}},
		{"model.Value", api.OK, func(g api.Signature) api.Errno { _, e := model.Value(g, things, few, make([]int, longest)); return e }},
		{"model.Holds", api.ErrMany, func(g api.Signature) api.Errno { _, e := model.Holds(g, things, literals); return e }},
		{"infer.Infer", api.ErrNone, func(g api.Signature) api.Errno {
			_, e := infer.Infer(g, one, api.Inference{Kind: api.InferPut, Place: make([]int, longest)})
			return e
		}},
		{"infer.All", api.ErrMany, func(g api.Signature) api.Errno { _, e := infer.All(g, clauses, 0, -1); return e }},
		{"proof.Clauses", api.ErrMany, func(g api.Signature) api.Errno { _, e := proof.Clauses(g, one, inferences); return e }},
		{"proof.Clauses of a deep one", api.ErrMany, func(g api.Signature) api.Errno {
			_, e := proof.Clauses(g, []api.Clause{{{A: deep}}}, inferences)
			return e
		}},
		{"proof.Check", api.ErrMany, func(g api.Signature) api.Errno { _, e := proof.Check(g, one, inferences); return e }},
		{"search.Search", api.ErrMany, func(g api.Signature) api.Errno { _, e := search.Search(g, clauses, 0); return e }},
		{"search.Search of a deep one", api.ErrMany, func(g api.Signature) api.Errno {
			_, e := search.Search(g, []api.Clause{{{A: deep}}}, 0)
			return e
		}},
		{"search.Is refuted", api.OK, func(g api.Signature) api.Errno {
			_, e := search.Is(g, one, api.Answer{Verdict: api.VerdictRefuted, Proof: inferences})
			return e
		}},
		{"search.Is saturated", api.ErrMany, func(g api.Signature) api.Errno {
			_, e := search.Is(g, one, api.Answer{Verdict: api.VerdictSaturated, Set: clauses})
			return e
		}},
		{"search.Is unknown", api.OK, func(g api.Signature) api.Errno {
			_, e := search.Is(g, one, api.Answer{Verdict: api.VerdictUnknown, Proof: inferences, Set: []api.Clause{{{A: deep}}}})
			return e
		}},
	}
}

func TestP4GreatThings(t *testing.T) {
	for _, c := range slices.Concat(greatTerms(), greatLists()) {
		if e := c.do(signature()); e != c.want {
			t.Errorf("%s: %d, not %d", c.name, e, c.want)
		}
		if e := c.do(api.Signature{Arity: make([]int, longest)}); e != api.ErrMany {
			t.Errorf("%s of a great signature: %d", c.name, e)
		}
	}
}

func TestP4ManyCalls(t *testing.T) {
	var first []string
	for round := range 100 {
		for n, c := range calls() {
			_, told, _, e := c.do(right())
			told = fmt.Sprint(told, e)
			if round == 0 {
				first = append(first, told)
			}
			if told != first[n] {
				t.Fatalf("%s: %s, once %s", c.name, told, first[n])
			}
		}
	}
}
