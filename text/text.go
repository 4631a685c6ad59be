// Package text: texts: see doc/02-text.md.
package text

import (
	"strings"

	"superpose/api"
	"superpose/term"
)

// Term as a text.
func Term(g api.Signature, t api.Term) (string, api.Errno) {
	if e := check(g, t); e != api.OK {
		return "", e
	}
	return written(t), api.OK
}

// Clause as a text.
func Clause(g api.Signature, c api.Clause) (string, api.Errno) {
	if e := checkClause(g, c); e != api.OK {
		return "", e
	}
	if len(c) == 0 {
		return emptyClause, api.OK
	}
	var literals []string
	for _, l := range c {
		literals = append(literals, written(l.A)+sign(l)+written(l.B))
	}
	return strings.Join(literals, or), api.OK
}

// ParseTerm: a term of a text.
func ParseTerm(g api.Signature, s string) (api.Term, api.Errno) {
	if e := term.Signature(g); e != api.OK {
		return api.Term{}, e
	}
	var t api.Term
	if e := read(s, func(r *reader) { t = r.term() }); e != api.OK {
		return api.Term{}, e
	}
	if e := check(g, t); e != api.OK {
		return api.Term{}, e
	}
	return t, api.OK
}

// ParseClause: a clause of a text.
func ParseClause(g api.Signature, s string) (api.Clause, api.Errno) {
	if e := term.Signature(g); e != api.OK {
		return nil, e
	}
	var c api.Clause
	if e := read(s, func(r *reader) { c = r.clause() }); e != api.OK {
		return nil, e
	}
	if e := checkClause(g, c); e != api.OK {
		return nil, e
	}
	return c, api.OK
}

// check terms, one behind the other.
func check(g api.Signature, terms ...api.Term) api.Errno {
	for _, t := range terms {
		if e := term.Check(g, t); e != api.OK {
			return e
		}
	}
	return api.OK
}

func checkClause(g api.Signature, c api.Clause) api.Errno {
	// Check of a term tells of the signature too, but a clause may have no term, or too many.
	if e := term.Signature(g); e != api.OK {
		return e
	}
	if len(c) > api.MaxLiterals {
		return api.ErrMany
	}
	for _, l := range c {
		if e := check(g, l.A, l.B); e != api.OK {
			return e
		}
	}
	return api.OK
}
